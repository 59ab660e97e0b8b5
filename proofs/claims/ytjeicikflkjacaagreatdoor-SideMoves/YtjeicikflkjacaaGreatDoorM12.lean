/- The caller in collect: the list; its way into collect and out of it, and out of share. -/
import Derived.Test.YtjeicikflkjacaaGreatDoorMsG
import Derived.Conc.CommBuf
import Derived.Conc.Beside
import Derived.Conc.TokenTrace
import Derived.Conc.CrowdTrace
set_option linter.unusedSimpArgs false
namespace Go.Proofs.YtjeicikflkjacaaGreatDoor.Ms
open Go Go.Conc Go.Conc.Lib Go.RowKit Go.ConcN Go.ConcR.Gen Go.ConcN.Gen
open Go.ConcR (KK wgBlock WgAt stA smA rd wr mk Payload Aside2 DC0)
section
variable {k:Kt} {N:Nat} {cs:List Frame} {bL nx th i:Nat} {a:Int} {e:Value}
set_option maxRecDepth 100000 in
set_option maxHeartbeats 8000000 in
theorem st2_step (hi:i<N)(hth:th<4294967296)(he:e=.nilIface∨∃t v,e=.iface t v){g:Goroutine}(h:St2G k N cs bL nx th i a e g):g.status=.running∧∃g1,(∀w old,w.heap[bL]?=some (.cells old 65 (0,0))→old.size=N*3 →
   ∃es,stepG Tryz.prog true g w=.go g1 (w.setRow bL (put3 old (i*3) (.int .i64 (i:Nat)) (.int .i64 a) e)) es∧∀ev∈es,∃q,ev=⟨.cell ⟨bL,q,none⟩,true,false⟩) ∧
  To Tryz.prog true (Bc k) (EvC k) (CHead k N cs bL nx (th+1)) g1:=by
 obtain⟨x3,x4,x5,x6,x10,x11,x12,x13,x14,x15,x16,x17,x18,x19,x20,x21,x22,x23,x24,x25,x26,x27,x28,x29,x30,x31,x34,x35,x36,rfl⟩:=h
 have ho:=one_of he
 refine⟨rfl,S44 cs #[.int .i64 (N:Nat),nch k N nx,.chan (some k.cR),x3,x4,x5,x6,.slice (some ⟨bL,0,none⟩) N N,.int .i64 (nx:Nat),.int .i64 (th:Nat),x10,x11,x12,x13,x14,x15,x16,x17,x18,x19,x20,x21,x22,x23,x24,x25,x26,x27,x28,x29,x30,x31,.agg #[.int .i64 (i:Nat),.int .i64 a,e],.pointer (some ⟨bL,i*3,none⟩),x34,x35,x36] [.inRegion ops13 [],.code c14,.inBlock 2,.inBlock 1,.inLoop lp44,.inBlock 0,.code tl44],fun w old hb hz=>?_,?_⟩
 ·have hsz:i*3+3≤old.size:=by omega
  have h2:=run_store3 (P:=Tryz.prog) Tryz.sizeOf65 (o:=i*3) hb hsz (x:=.int .i64 (i:Nat)) (y:=.int .i64 a) rfl rfl ho
  have hr:(execOp (Act.eval ⟨#[.int .i64 (N:Nat),nch k N nx,.chan (some k.cR),x3,x4,x5,x6,.slice (some ⟨bL,0,none⟩) N N,.int .i64 (nx:Nat),.int .i64 (th:Nat),x10,x11,x12,x13,x14,x15,x16,x17,x18,x19,x20,x21,x22,x23,x24,x25,x26,x27,x28,x29,x30,x31,.agg #[.int .i64 (i:Nat),.int .i64 a,e],.pointer (some ⟨bL,i*3,none⟩),x34,x35,x36],[]⟩) (ops13[5]'(by decide))).run Tryz.prog w=.ok .skip (w.setRow bL (put3 old (i*3) (.int .i64 (i:Nat)) (.int .i64 a) e)):=by
   show Sem.run Tryz.prog (do Instr.storeAt 65 (.pointer (some ⟨bL,i*3,none⟩)) (.agg #[.int .i64 (i:Nat),.int .i64 a,e]);pure Next.skip:Sem Next) w=_
   simp only[bind,Sem.run_bind',h2,Result.andThen]
   rfl
  have hl:∀ev∈(execOp (Act.eval ⟨#[.int .i64 (N:Nat),nch k N nx,.chan (some k.cR),x3,x4,x5,x6,.slice (some ⟨bL,0,none⟩) N N,.int .i64 (nx:Nat),.int .i64 (th:Nat),x10,x11,x12,x13,x14,x15,x16,x17,x18,x19,x20,x21,x22,x23,x24,x25,x26,x27,x28,x29,x30,x31,.agg #[.int .i64 (i:Nat),.int .i64 a,e],.pointer (some ⟨bL,i*3,none⟩),x34,x35,x36],[]⟩) (ops13[5]'(by decide))).events Tryz.prog w #[],∃q,ev=⟨.cell ⟨bL,q,none⟩,true,false⟩:=by
   have:=ev_store3 (P:=Tryz.prog) Tryz.sizeOf65 (o:=i*3) hb hsz (x:=.int .i64 (i:Nat)) (y:=.int .i64 a) rfl rfl ho
   show ∀ev∈Sem.events Tryz.prog (do Instr.storeAt 65 (.pointer (some ⟨bL,i*3,none⟩)) (.agg #[.int .i64 (i:Nat),.int .i64 a,e]);pure Next.skip:Sem Next) w #[],_
   simp only[Sem.events_bind,h2,Result.evThen_ok,Sem.events_pure]
   exact this
  have:=stepG_none (P:=Tryz.prog) (main:=true) (b:=base 44) (a:=⟨#[.int .i64 (N:Nat),nch k N nx,.chan (some k.cR),x3,x4,x5,x6,.slice (some ⟨bL,0,none⟩) N N,.int .i64 (nx:Nat),.int .i64 (th:Nat),x10,x11,x12,x13,x14,x15,x16,x17,x18,x19,x20,x21,x22,x23,x24,x25,x26,x27,x28,x29,x30,x31,.agg #[.int .i64 (i:Nat),.int .i64 a,e],.pointer (some ⟨bL,i*3,none⟩),x34,x35,x36],[]⟩) (k:=[.code c14,.inBlock 2,.inBlock 1,.inLoop lp44,.inBlock 0,.code tl44]) (cs:=cs) (w:=w) (ops:=ops13) (i:=5) (rest:=[]) rfl rfl (by k_ne) hr
  refine⟨_,by rw[S44,this];rfl,?_⟩
  unfold listed
  rw[seen_eq loud44 (fun ev hev f=>by obtain⟨q,rfl⟩:=hl ev hev;simp)]
  exact hl
 ·simp only[S44,ops13,c14,c13,cGot,cSel,bd44,lp44,tl44,body44,Tryz.f44,Option.getD_some]
  have w1:IntKind.i64.wrap ((th:Int)+1)=((th+1:Nat):Int):=by rw[IntKind.wrap_i64];omega
  refine To.ctl rfl (fun _ _=>stepG_region_end) ?_
  refine To.ctl rfl (fun _ _=>stepG_region) ?_;simp only[List.size_toArray,List.length_cons,List.length_nil,Nat.reduceAdd,Nat.zero_add,List.range,List.range.loop]
  refine To.value _ rfl rfl (by k_ne) (fun _ _=>by go_simp<;>rfl) (fun _ _=>by simp[go_sem]) ?_;walk_nrm
  refine To.value (.int .i64 ((th+1:Nat):Int)) rfl rfl (by k_ne) (fun _ _=>by go_simp;try rw[w1]) (fun _ _=>by simp[go_sem]) ?_;walk_nrm
  refine To.value _ rfl rfl (by k_ne) (fun _ _=>by go_simp<;>rfl) (fun _ _=>by simp[go_sem]) ?_;walk_nrm
  refine To.ctl rfl (fun _ _=>stepG_region_end) ?_
  refine To.ctl rfl (fun _ _=>stepG_inBlock) ?_
  refine To.ctl rfl (fun _ _=>stepG_inBlock) ?_
  refine To.ctl rfl (fun _ _=>stepG_inLoop) ?_
  exact To.nil ⟨_,_,_,_,_,_,_,_,_,_,_,_,_,_,_,_,_,_,_,_,_,_,_,_,_,_,_,_,_,_,_,rfl⟩
set_option maxRecDepth 100000 in
set_option maxHeartbeats 8000000 in
theorem co_enter {m:Int}{g:Goroutine}(h:CoG k (N:Nat) m cs g):∃c0:Frame,To Tryz.prog true (Bc k) (EvC k) (MkG k N (c0 :: cs)) g∧∃j x1 x2 x3 x4 x6 x10 x11 x12 x13 x14 x17 x18 x19 x20 x24 x25 x26 x27,c0=(base 31).at ⟨#[.int .i64 (N:Nat),x1,x2,x3,x4,.pointer (some ⟨k.bK,0,none⟩),x6,.pointer (some ⟨k.bN,0,none⟩),.pointer (some ⟨k.bR,0,none⟩),.pointer (some ⟨k.wg,0,none⟩),x10,x11,x12,x13,x14,.int .i64 m,.int .i64 j,x17,x18,x19,x20,.int .i64 (N:Nat),.chan (some k.cN),.chan (some k.cR),x24,x25,x26,x27],[]⟩ [.inRegion opsCo [3,4],.code cCo]:=by
 obtain⟨j,x1,x2,x3,x4,x6,x10,x11,x12,x13,x14,x17,x18,x19,x20,x24,x25,x26,x27,rfl⟩:=h
 refine⟨(base 31).at ⟨#[.int .i64 (N:Nat),x1,x2,x3,x4,.pointer (some ⟨k.bK,0,none⟩),x6,.pointer (some ⟨k.bN,0,none⟩),.pointer (some ⟨k.bR,0,none⟩),.pointer (some ⟨k.wg,0,none⟩),x10,x11,x12,x13,x14,.int .i64 m,.int .i64 j,x17,x18,x19,x20,.int .i64 (N:Nat),.chan (some k.cN),.chan (some k.cR),x24,x25,x26,x27],[]⟩ [.inRegion opsCo [3,4],.code cCo],?_,j,x1,x2,x3,x4,x6,x10,x11,x12,x13,x14,x17,x18,x19,x20,x24,x25,x26,x27,rfl⟩
 refine To.call (ops:=opsCo) (i:=3) (rest:=[4]) rfl rfl (by k_ne) rfl Tryz.func44 (by kernel_rfl) rfl ?_
 walk_nrmf Tryz.f44
 refine To.ctl rfl (fun _ _=>stepG_seq) ?_
 refine To.ctl rfl (fun _ _=>stepG_region) ?_;simp only[List.size_toArray,List.length_cons,List.length_nil,Nat.reduceAdd,Nat.zero_add,List.range,List.range.loop]
 refine To.value _ rfl rfl (by k_ne) (fun _ _=>by go_simp<;>rfl) (fun _ _=>by simp[go_sem]) ?_;walk_nrm
 refine To.ctl rfl (fun _ _=>stepG_region_end) ?_
 refine To.ctl rfl (fun _ _=>stepG_seq) ?_
 refine To.ctl rfl (fun _ _=>stepG_region) ?_;simp only[List.size_toArray,List.length_cons,List.length_nil,Nat.reduceAdd,Nat.zero_add,List.range,List.range.loop]
 refine To.value _ rfl rfl (by k_ne) (fun _ _=>by go_simp<;>rfl) (fun _ _=>by simp[go_sem]) ?_;walk_nrm
 exact To.nil ⟨_,_,_,_,_,_,_,_,_,_,_,_,_,_,_,_,_,_,_,_,_,_,_,_,_,_,_,_,_,_,_,_,_,rfl⟩
noncomputable def opsCl:Array Oper:=match cCo with|.seq (.region _ o _) _=>o|_=>#[]
noncomputable def cCl:Code:=match cCo with|.seq _ c=>c|_=>.skip
def zL (N:Nat):Array Value:=Go.madeCells #[.int .i64 0,.int .i64 0,.nilIface] (N*3)
theorem info65:∃i,Tryz.prog.info? 65=some i∧i.size=3∧i.bytes=32∧i.zero=some (.agg #[.int .i64 0,.int .i64 0,.nilIface]):=by
 have h:(Tryz.prog.info? 65).map (fun i=>(i.size,i.bytes,i.zero))=some (3,32,some (.agg #[.int .i64 0,.int .i64 0,.nilIface])):=by kernel_rfl
 obtain⟨i,hi,he⟩:=Option.map_eq_some_iff.1 h
 simp only[Prod.mk.injEq] at he
 exact⟨i,hi,he.1,he.2.1,he.2.2⟩
set_option maxRecDepth 100000 in
set_option maxHeartbeats 8000000 in
theorem mk_step (hN:N<1000000){g:Goroutine}(h:MkG k N cs g)(w:World):g.status=.running∧∃g1,stepG Tryz.prog true g w=.go g1 (w.alloc (.cells (zL N) 65)) #[]∧To Tryz.prog true (Bc k) (EvC k) (CHead k N cs w.heap.size 0 0) g1:=by
 obtain⟨x3,x4,x5,x6,x7,x8,x9,x10,x12,x13,x14,x15,x16,x17,x18,x19,x20,x21,x22,x23,x24,x25,x26,x27,x28,x29,x30,x31,x32,x33,x34,x35,x36,rfl⟩:=h
 obtain⟨ti,hti,hsz,hby,hzr⟩:=info65
 have hb1:(ti.bytes:Int)*(N:Int)≤281474976710656:=by rw[hby];omega
 have hr0:=run_makeSlice (P:=Tryz.prog) w 62 65 ti _ Tryz.underlying62 hti hzr .i64 .i64 (N:Int) (N:Int) (by omega) (by omega) (by rw[hsz];simp;omega) hb1 (by omega)
 have hl0:=events_make (P:=Tryz.prog) w 62 65 ti _ Tryz.underlying62 hti hzr .i64 .i64 (N:Int) (N:Int) (by omega) (by omega) hb1 (by omega) (by rw[hby];simp;omega) #[]
 simp only[Int.toNat_natCast,hsz] at hr0
 refine⟨rfl,S44 cs #[.int .i64 (N:Nat),.chan (some k.cN),.chan (some k.cR),x3,x4,x5,x6,x7,x8,x9,x10,.int .i64 (N:Nat),.slice (some ⟨w.heap.size,0,none⟩) N N,x13,x14,x15,x16,x17,x18,x19,x20,x21,x22,x23,x24,x25,x26,x27,x28,x29,x30,x31,x32,x33,x34,x35,x36] [.inRegion opsMk [2],.code cMk],?_,?_⟩
 ·have hr:(execOp (Act.eval ⟨#[.int .i64 (N:Nat),.chan (some k.cN),.chan (some k.cR),x3,x4,x5,x6,x7,x8,x9,x10,.int .i64 (N:Nat),x12,x13,x14,x15,x16,x17,x18,x19,x20,x21,x22,x23,x24,x25,x26,x27,x28,x29,x30,x31,x32,x33,x34,x35,x36],[]⟩) (opsMk[1]'(by decide))).run Tryz.prog w=.ok (.value (.slice (some ⟨w.heap.size,0,none⟩) N N)) (w.alloc (.cells (zL N) 65)):=by
   show Sem.run Tryz.prog (do pure (Next.value (← Instr.makeSlice 62 (.int .i64 (N:Nat)) (.int .i64 (N:Nat)))):Sem Next) w=_
   simp only[bind,Sem.run_bind',hr0,Result.andThen]
   rfl
  have hl:(execOp (Act.eval ⟨#[.int .i64 (N:Nat),.chan (some k.cN),.chan (some k.cR),x3,x4,x5,x6,x7,x8,x9,x10,.int .i64 (N:Nat),x12,x13,x14,x15,x16,x17,x18,x19,x20,x21,x22,x23,x24,x25,x26,x27,x28,x29,x30,x31,x32,x33,x34,x35,x36],[]⟩) (opsMk[1]'(by decide))).events Tryz.prog w #[]=#[]:=by
   show Sem.events Tryz.prog (do pure (Next.value (← Instr.makeSlice 62 (.int .i64 (N:Nat)) (.int .i64 (N:Nat)))):Sem Next) w #[]=_
   simp only[Sem.events_bind,hr0,hl0,Result.evThen_ok,Sem.events_pure]
  have:=stepG_value (P:=Tryz.prog) (main:=true) (b:=base 44) (a:=⟨#[.int .i64 (N:Nat),.chan (some k.cN),.chan (some k.cR),x3,x4,x5,x6,x7,x8,x9,x10,.int .i64 (N:Nat),x12,x13,x14,x15,x16,x17,x18,x19,x20,x21,x22,x23,x24,x25,x26,x27,x28,x29,x30,x31,x32,x33,x34,x35,x36],[]⟩) (k:=[.code cMk]) (cs:=cs) (w:=w) (ops:=opsMk) (i:=1) (rest:=[2]) rfl rfl (by k_ne) hr
  rw[S44,this]
  have hs:=congrArg (seen Tryz.prog (base 44).fn) hl
  rw[seen_none] at hs
  exact congrArg (fun x=>GStep.go _ _ x) hs
 ·have hn0:nch k N 0=.chan (some k.cN):=by unfold nch;rw[if_neg (by omega)]
  simp only[S44,opsMk,cMk,body44,Tryz.f44,Option.getD_some]
  refine To.value _ rfl rfl (by k_ne) (fun _ _=>by go_simp<;>rfl) (fun _ _=>by simp[go_sem]) ?_;walk_nrm
  refine To.ctl rfl (fun _ _=>stepG_region_end) ?_
  refine To.ctl rfl (fun _ _=>stepG_seq) ?_
  refine To.ctl rfl (fun _ _=>stepG_region) ?_;simp only[List.size_toArray,List.length_cons,List.length_nil,Nat.reduceAdd,Nat.zero_add,List.range,List.range.loop]
  refine To.value _ rfl rfl (by k_ne) (fun _ _=>by go_simp<;>rfl) (fun _ _=>by simp[go_sem]) ?_;walk_nrm
  refine To.ctl rfl (fun _ _=>stepG_region_end) ?_
  refine To.ctl rfl (fun _ _=>stepG_seq) ?_
  refine To.ctl rfl (fun _ _=>stepG_seq) ?_
  refine To.ctl rfl (fun _ _=>stepG_region) ?_;simp only[List.size_toArray,List.length_cons,List.length_nil,Nat.reduceAdd,Nat.zero_add,List.range,List.range.loop]
  refine To.value _ rfl rfl (by k_ne) (fun _ _=>by go_simp<;>rfl) (fun _ _=>by simp[go_sem]) ?_;walk_nrm
  refine To.ctl rfl (fun _ _=>stepG_region_end) ?_
  refine To.ctl rfl (fun _ _=>stepG_block) ?_
  refine To.ctl rfl (fun _ _=>stepG_loop) ?_
  exact To.nil ⟨_,_,_,_,_,_,_,_,_,_,_,_,_,_,_,_,_,_,_,_,_,_,_,_,_,_,_,_,_,_,_,by rw[hn0];rfl⟩
def CloseG (k:Kt)(N:Nat)(m:Int)(bL:Nat)(cs:List Frame)(g:Goroutine):Prop:=∃x16 x1 x2 x3 x4 x6 x11 x12 x13 x14 x17 x18 x19 x20 x21 x22 x23 x24 x26 x27,g=S31 cs #[.int .i64 (N:Nat),x1,x2,x3,x4,.pointer (some ⟨k.bK,0,none⟩),x6,.pointer (some ⟨k.bN,0,none⟩),.pointer (some ⟨k.bR,0,none⟩),.pointer (some ⟨k.wg,0,none⟩),.slice (some ⟨bL,0,none⟩) N N,x11,x12,x13,x14,.int .i64 m,x16,x17,x18,x19,x20,x21,x22,x23,x24,.chan (some k.cN),x26,x27] [.inRegion opsCl [1],.code cCl]
set_option maxRecDepth 100000 in
set_option maxHeartbeats 8000000 in
theorem chead_end {m:Int}(h1:¬th<N){j:Int}{x1 x2 x3 x4 x6 x10 x11 x12 x13 x14 x17 x18 x19 x20 x24 x25 x26 x27:Value}{g:Goroutine}(h:CHead k N ((base 31).at ⟨#[.int .i64 (N:Nat),x1,x2,x3,x4,.pointer (some ⟨k.bK,0,none⟩),x6,.pointer (some ⟨k.bN,0,none⟩),.pointer (some ⟨k.bR,0,none⟩),.pointer (some ⟨k.wg,0,none⟩),x10,x11,x12,x13,x14,.int .i64 m,.int .i64 j,x17,x18,x19,x20,.int .i64 (N:Nat),.chan (some k.cN),.chan (some k.cR),x24,x25,x26,x27],[]⟩ [.inRegion opsCo [3,4],.code cCo] :: cs) bL nx th g):To Tryz.prog true (Bc k) (EvC k) (CloseG k N m bL cs) g:=by
 obtain⟨x3,x4,x5,x6,x10,x11,x12,x13,x14,x15,x16,x17,x18,x19,x20,x21,x22,x23,x24,x25,x26,x27,x28,x29,x30,x31,x32,x33,x34,x35,x36,rfl⟩:=h
 have d1:decide (th<N)=false:=decide_eq_false h1
 have d2:decide ((th:Int)<(N:Int))=false:=decide_eq_false (by omega)
 simp only[S44,lp44,tl44,body44,Tryz.f44,Option.getD_some]
 refine To.ctl rfl (fun _ _=>stepG_seq) ?_
 refine To.ctl rfl (fun _ _=>stepG_seq) ?_
 refine To.ctl rfl (fun _ _=>stepG_region) ?_;simp only[List.size_toArray,List.length_cons,List.length_nil,Nat.reduceAdd,Nat.zero_add,List.range,List.range.loop]
 refine To.value _ rfl rfl (by k_ne) (fun _ _=>by go_simp<;>rfl) (fun _ _=>by simp[go_sem]) ?_;walk_nrm
 refine To.value _ rfl rfl (by k_ne) (fun _ _=>by go_simp<;>rfl) (fun _ _=>by simp[go_sem]) ?_;walk_nrm
 refine To.value _ rfl rfl (by k_ne) (fun _ _=>by go_simp<;>rfl) (fun _ _=>by simp[go_sem]) ?_;walk_nrm
 refine To.ctl rfl (fun _ _=>stepG_region_end) ?_
 refine To.ctl rfl (fun _ _=>stepG_cond (t:=false) rfl) ?_;simp only[if_true,if_false,Bool.false_eq_true,↓reduceIte]
 refine To.ctl rfl (fun _ _=>stepG_exit rfl) ?_
 refine To.ctl rfl (fun _ _=>stepG_seq) ?_
 refine To.ctl rfl (fun _ _=>stepG_region) ?_;simp only[List.size_toArray,List.length_cons,List.length_nil,Nat.reduceAdd,Nat.zero_add,List.range,List.range.loop]
 refine To.value _ rfl rfl (by k_ne) (fun _ _=>by go_simp<;>rfl) (fun _ _=>by simp[go_sem]) ?_;walk_nrm
 refine To.value _ rfl rfl (by k_ne) (fun _ _=>by go_simp<;>rfl) (fun _ _=>by simp[go_sem]) ?_;walk_nrm
 refine To.ctl rfl (fun _ _=>stepG_region_end) ?_
 refine To.ctl rfl (fun _ _=>stepG_ret') ?_
 refine To.leave1 (ops:=opsCo) (i:=3) (rest:=[4]) rfl rfl Tryz.func44 rfl ?_
 simp only[opsCo,cCo,tl31,body31,Tryz.f31,Option.getD_some]
 walk_nrm
 refine To.value _ rfl rfl (by k_ne) (fun _ _=>by go_simp<;>rfl) (fun _ _=>by simp[go_sem]) ?_;walk_nrm
 refine To.ctl rfl (fun _ _=>stepG_region_end) ?_
 refine To.ctl rfl (fun _ _=>stepG_seq) ?_
 refine To.ctl rfl (fun _ _=>stepG_region) ?_;simp only[List.size_toArray,List.length_cons,List.length_nil,Nat.reduceAdd,Nat.zero_add,List.range,List.range.loop]
 refine To.load (.chan (some k.cN)) rfl rfl (by k_ne) (fun w hB=>by have h1:=hB.bx.n;go_simp) (fun w hB=>by have h1:=hB.bx.n;simp[go_sem,h1]) loud31 (.inl ⟨k.bN,.inl rfl,rfl⟩) ?_
 walk_nrm
 exact To.nil ⟨_,_,_,_,_,_,_,_,_,_,_,_,_,_,_,_,_,_,_,_,rfl⟩
end
end Go.Proofs.YtjeicikflkjacaaGreatDoor.Ms

/- The caller at the end of share: the closing of numbers, Wait, the return. -/
set_option linter.unusedSimpArgs false
namespace Go.Proofs.YtjeicikflkjacaaGreatDoor.Ms
open Go Go.Conc Go.Conc.Lib Go.RowKit Go.ConcN Go.ConcR.Gen Go.ConcN.Gen
open Go.ConcR (KK wgBlock WgAt stA smA rd wr mk Payload Aside2 DC0)
section
variable {k:Kt} {N:Nat} {cs:List Frame} {bL:Nat}
noncomputable def opsWt:Array Oper:=match cCl with|.seq (.region _ o _) _=>o|_=>#[]
noncomputable def cWt:Code:=match cCl with|.seq _ c=>c|_=>.skip
def BackG (N bL:Nat)(c:Frame)(cs:List Frame)(g:Goroutine):Prop:=g=G (c.finish (.slice (some ⟨bL,0,none⟩) N N)) cs
set_option maxRecDepth 100000 in
set_option maxHeartbeats 8000000 in
theorem close_step {m:Int}{c:Frame}{g:Goroutine}(h:CloseG k N m bL (c :: cs) g):g.status=.running∧mayWake Tryz.prog g=true∧∃g1,g1.status=.running∧(∀w s r tm,w.heap[k.cN]?=some (.chan 0 #[] false s r tm) →
   stepG Tryz.prog true g w=.go g1 (w.setChan k.cN 0 #[] true s r tm) #[⟨.obj k.cN,false,true⟩,⟨.obj k.cN,true,true⟩]) ∧
  ∃cw:Frame,To Tryz.prog true (Bc k) (EvC k) (WtK Tryz.prog lk k.wg (Bc k) (EvC k) cw (c :: cs)) g1∧∀g,AnchG lk k.wg cw (c :: cs) g→To Tryz.prog true (Bc k) (EvC k) (Wt1 Tryz.prog lk k.wg (Bc k) (EvC k) cw (c :: cs) (BackG N bL c cs)) g:=by
 obtain⟨x16,x1,x2,x3,x4,x6,x11,x12,x13,x14,x17,x18,x19,x20,x21,x22,x23,x24,x26,x27,rfl⟩:=h
 refine⟨rfl,by rfl,S31 (c :: cs) #[.int .i64 (N:Nat),x1,x2,x3,x4,.pointer (some ⟨k.bK,0,none⟩),x6,.pointer (some ⟨k.bN,0,none⟩),.pointer (some ⟨k.bR,0,none⟩),.pointer (some ⟨k.wg,0,none⟩),.slice (some ⟨bL,0,none⟩) N N,x11,x12,x13,x14,.int .i64 m,x16,x17,x18,x19,x20,x21,x22,x23,x24,.chan (some k.cN),x26,x27] [.inRegion opsCl [],.code cCl],rfl,fun w s r tm hc=>?_,?_⟩
 ·have hr0:=run_close_open (P:=Tryz.prog) (w:=w) #[83] 0 hc
  have hl0:=events_close_open (P:=Tryz.prog) (w:=w) (es:=#[]) #[83] 0 hc
  have hr:(execOp (Act.eval ⟨#[.int .i64 (N:Nat),x1,x2,x3,x4,.pointer (some ⟨k.bK,0,none⟩),x6,.pointer (some ⟨k.bN,0,none⟩),.pointer (some ⟨k.bR,0,none⟩),.pointer (some ⟨k.wg,0,none⟩),.slice (some ⟨bL,0,none⟩) N N,x11,x12,x13,x14,.int .i64 m,x16,x17,x18,x19,x20,x21,x22,x23,x24,.chan (some k.cN),x26,x27],[]⟩) (opsCl[1]'(by decide))).run Tryz.prog w=.ok (.value (.tuple #[])) (w.setChan k.cN 0 #[] true s r tm):=by
   show Sem.run Tryz.prog (execOp (Act.eval ⟨#[.int .i64 (N : Nat), x1, x2, x3, x4, .pointer (some ⟨k.bK, 0, none⟩), x6, .pointer (some ⟨k.bN, 0, none⟩), .pointer (some ⟨k.bR, 0, none⟩), .pointer (some ⟨k.wg, 0, none⟩), .slice (some ⟨bL, 0, none⟩) N N, x11, x12, x13, x14, .int .i64 m, x16, x17, x18, x19, x20, x21, x22, x23, x24, .chan (some k.cN), x26, x27], []⟩) { dst := none, op := .call { callee := .builtin .close, args := #[.tmp 25], argTypes := #[83] }, type := 0, pos := "side.go:75", after := #[{ on := 0, ground := .data }], guard := none }) w = _
   simp[execOp,resolve,invoke,builtin,Act.eval,hr0,World.setChan]
  have hl:(execOp (Act.eval ⟨#[.int .i64 (N:Nat),x1,x2,x3,x4,.pointer (some ⟨k.bK,0,none⟩),x6,.pointer (some ⟨k.bN,0,none⟩),.pointer (some ⟨k.bR,0,none⟩),.pointer (some ⟨k.wg,0,none⟩),.slice (some ⟨bL,0,none⟩) N N,x11,x12,x13,x14,.int .i64 m,x16,x17,x18,x19,x20,x21,x22,x23,x24,.chan (some k.cN),x26,x27],[]⟩) (opsCl[1]'(by decide))).events Tryz.prog w #[]=#[⟨.obj k.cN,false,true⟩,⟨.obj k.cN,true,true⟩]:=by
   show Sem.events Tryz.prog (execOp (Act.eval ⟨#[.int .i64 (N : Nat), x1, x2, x3, x4, .pointer (some ⟨k.bK, 0, none⟩), x6, .pointer (some ⟨k.bN, 0, none⟩), .pointer (some ⟨k.bR, 0, none⟩), .pointer (some ⟨k.wg, 0, none⟩), .slice (some ⟨bL, 0, none⟩) N N, x11, x12, x13, x14, .int .i64 m, x16, x17, x18, x19, x20, x21, x22, x23, x24, .chan (some k.cN), x26, x27], []⟩) { dst := none, op := .call { callee := .builtin .close, args := #[.tmp 25], argTypes := #[83] }, type := 0, pos := "side.go:75", after := #[{ on := 0, ground := .data }], guard := none }) w #[] = _
   simp[execOp,resolve,invoke,builtin,Act.eval,hr0,hl0]
  have:=stepG_value (P:=Tryz.prog) (main:=true) (b:=base 31) (a:=⟨#[.int .i64 (N:Nat),x1,x2,x3,x4,.pointer (some ⟨k.bK,0,none⟩),x6,.pointer (some ⟨k.bN,0,none⟩),.pointer (some ⟨k.bR,0,none⟩),.pointer (some ⟨k.wg,0,none⟩),.slice (some ⟨bL,0,none⟩) N N,x11,x12,x13,x14,.int .i64 m,x16,x17,x18,x19,x20,x21,x22,x23,x24,.chan (some k.cN),x26,x27],[]⟩) (k:=[.code cCl]) (cs:=c :: cs) (w:=w) (ops:=opsCl) (i:=1) (rest:=[]) rfl rfl (by k_ne) hr
  rw[S31,this]
  have hs:=congrArg (seen Tryz.prog (base 31).fn) hl
  rw[seen_eq (es:=#[⟨.obj k.cN,false,true⟩,⟨.obj k.cN,true,true⟩]) loud31 (by simp)] at hs
  exact congrArg (fun x=>GStep.go _ _ x) hs
 ·refine⟨(base 31).at ⟨#[.int .i64 (N:Nat),x1,x2,x3,x4,.pointer (some ⟨k.bK,0,none⟩),x6,.pointer (some ⟨k.bN,0,none⟩),.pointer (some ⟨k.bR,0,none⟩),.pointer (some ⟨k.wg,0,none⟩),.slice (some ⟨bL,0,none⟩) N N,x11,x12,x13,x14,.int .i64 m,x16,x17,x18,x19,x20,x21,x22,x23,x24,.chan (some k.cN),x26,x27],[]⟩ [.inRegion opsWt [0],.code cWt],?_,fun g hg=>?_⟩
  ·simp only[S31,opsCl,cCl,cCo,tl31,body31,Tryz.f31,Option.getD_some]
   refine To.ctl rfl (fun _ _=>stepG_region_end) ?_
   refine To.ctl rfl (fun _ _=>stepG_seq) ?_
   refine To.ctl rfl (fun _ _=>stepG_region) ?_;simp only[List.size_toArray,List.length_cons,List.length_nil,Nat.reduceAdd,Nat.zero_add,List.range,List.range.loop]
   refine To.call rfl rfl (by k_ne) rfl wgLib.f_wait (nm_wait lk) rfl ?_
   walk_nrmf waitFn
   have hW:=fun (c0:Frame) (cs0:List Frame)=>@wait_start Tryz.prog lk k.wg (Bc k) (EvC k) cs0 _ wgLib c0
   simp only[body_wait,waitFn,Option.getD_some] at hW
   exact hW _ _
  ·refine wait_round (ops₀:=opsWt) (i₀:=0) (rest₀:=[]) wgLib (fun w hw=>hw.live) (.inr (.inr rfl)) ?_ g hg
   simp only[opsWt,cWt,cCl,cCo,tl31,body31,Tryz.f31,Option.getD_some]
   walk_nrm
   refine To.ctl rfl (fun _ _=>stepG_region_end) ?_
   refine To.ctl rfl (fun _ _=>stepG_seq) ?_
   refine To.ctl rfl (fun _ _=>stepG_region) ?_;simp only[List.size_toArray,List.length_cons,List.length_nil,Nat.reduceAdd,Nat.zero_add,List.range,List.range.loop]
   refine To.value _ rfl rfl (by k_ne) (fun _ _=>by go_simp<;>rfl) (fun _ _=>by simp[go_sem]) ?_;walk_nrm
   refine To.value _ rfl rfl (by k_ne) (fun _ _=>by go_simp<;>rfl) (fun _ _=>by simp[go_sem]) ?_;walk_nrm
   refine To.ctl rfl (fun _ _=>stepG_region_end) ?_
   refine To.ctl rfl (fun _ _=>stepG_ret') ?_
   refine To.ctl rfl (fun w _=>stepG_leave (v:=.slice (some ⟨bL,0,none⟩) N N) rfl rfl Tryz.func31 (results_tmp (t:=6) rfl _ Tryz.prog w) (events_results_tmp (t:=6) rfl _ _)) ?_
   exact To.nil rfl
end
end Go.Proofs.YtjeicikflkjacaaGreatDoor.Ms

/- The trace of a caller and its workers: who owns a place knows all that touched it; what is only read was written by nobody that one does not know. -/
namespace Go.Proofs.YtjeicikflkjacaaGreatDoor.Ms
open Go Go.Conc Go.ConcN
structure TI (Mem:Nat→Prop)(Own:Nat→Loc→Prop)(Ro Sh Zs:Loc→Prop)(B:Nat)(t:Trace):Prop where
 nr:∀said,¬Race said t
 own:∀g,Mem g→∀l,Own g l→Perm t g l
 rd:∀g,Mem g→∀l,Ro l→PermW t g l
 quiet:Quiet Sh t
 all:∀q a,touchAt t q=some a→a.loc.isMemory=true→(∃g,Mem g∧g≠0∧t.g? q=some g)∨Knows t 0 q∨(Zs a.loc∧a.kind=.atomic∧¬t.heard q)
 low:∀op∈t,op.act.low B
structure Apt (Mem:Nat→Prop)(Own:Nat→Loc→Prop)(Ro Sh:Loc→Prop):Prop where
 own:∀g g' l,Mem g→Mem g'→Own g l→Own g' l→g=g'
 ro:∀g l,Mem g→Own g l→¬Ro l
 sh:∀g l,Mem g→Own g l→¬Sh l
 rs:∀l,Ro l→¬Sh l
section
variable {Mem Mem':Nat→Prop} {Own Own':Nat→Loc→Prop} {Ro Sh Zs:Loc→Prop} {B B':Nat} {t u:Trace}
theorem heard_app {q:Nat}(h:q<t.size):¬t.heard q→¬(t++u).heard q:=fun hn hh=>hn ((heard_old h).1 hh)
theorem all_app (H:∀q a,touchAt t q=some a→a.loc.isMemory=true→(∃g,Mem g∧g≠0∧t.g? q=some g)∨Knows t 0 q∨(Zs a.loc∧a.kind=.atomic∧¬t.heard q))
  (hu:∀op∈u,op.act.touch?=none∨Mem op.g):∀q a,touchAt (t++u) q=some a→a.loc.isMemory=true→(∃g,Mem g∧g≠0∧(t++u).g? q=some g)∨Knows (t++u) 0 q∨(Zs a.loc∧a.kind=.atomic∧¬(t++u).heard q):=by
 intro q a ha hm
 obtain⟨x,hx,hxa⟩:=touch_of ha
 rcases getElem?_append_cases hx with⟨hlt,hx'⟩|⟨_,hxu⟩
 ·rcases H q a (by rw[touchAt_of hx'];exact hxa) hm with⟨g,h1,h2,h3⟩|h|⟨h1,h2,h3⟩
  ·exact .inl ⟨g,h1,h2,by rw[g?_old hlt];exact h3⟩
  ·exact .inr (.inl (h.app u))
  ·exact .inr (.inr ⟨h1,h2,heard_app hlt h3⟩)
 ·rcases hu x hxu with h|h
  ·rw[h] at hxa;cases hxa
  ·by_cases h0:x.g=0
   ·have:=knows_own hx
    rw[h0] at this
    exact .inr (.inl this)
   ·exact .inl ⟨x.g,h,h0,by simp[Trace.g?,hx]⟩
theorem TI.app (H:TI Mem Own Ro Sh Zs B t)(A:Apt Mem Own Ro Sh){g:Nat}(hg:Mem g)(hu:∀op∈u,op.g=g)
  (ht:∀op∈u,∀b,op.act.touch?=some b→Own g b.loc∨(Ro b.loc∧b.write=false)∨(Sh b.loc∧b.kind≠.plain∧(b.kind=.said→g=0))) (hl:∀op∈u,op.act.low B):TI Mem Own Ro Sh Zs B (t++u):=by
 refine⟨fun said=>?_,fun g' hg' l hl'=>(H.own g' hg' l hl').app fun op hop b hb e=>?_,fun g' hg' l hl'=>(H.rd g' hg' l hl').app fun op hop b hb e hw=>?_,H.quiet.app fun op hop x hx hs=>?_,
  all_app H.all fun op hop=>.inr (by rw[hu op hop];exact hg),seen_app H.low hl⟩
 ·refine noRace_append (H.nr said) hu fun i a ha op hop b hb hc=>?_
  rcases ht op hop b hb with h1|⟨h1,h2⟩|⟨h1,h2,h3⟩
  ·exact H.own g hg b.loc h1 i a ha hc.1
  ·exact H.rd g hg b.loc h1 i a ha hc.1 (hc.2.2.1.resolve_right (by simp[h2]))
  ·exact H.quiet.known h1 h2 h3 i a ha hc
 ·rw[hu op hop]
  rcases ht op hop b hb with h1|⟨h1,_⟩|⟨h1,_⟩
  ·exact A.own g g' l hg hg' (e ▸ h1) hl'
  ·exact absurd (e ▸ h1) (A.ro g' l hg' hl')
  ·exact absurd (e ▸ h1) (A.sh g' l hg' hl')
 ·rcases ht op hop b hb with h1|⟨_,h2⟩|⟨h1,_⟩
  ·exact absurd hl' (A.ro g l hg (e ▸ h1))
  ·rw[h2] at hw;cases hw
  ·exact absurd (e ▸ h1) (A.rs l hl')
 ·rcases ht op hop x hx with h1|⟨h1,_⟩|⟨_,h2,h3⟩
  ·exact absurd hs (A.sh g _ hg h1)
  ·exact absurd hs (A.rs _ h1)
  ·exact⟨h2,fun e=>by rw[hu op hop];exact h3 e⟩
theorem TI.mute (H:TI Mem Own Ro Sh Zs B t)(hn:∀op∈u,op.act.touch?=none)(hl:∀op∈u,op.act.low B):TI Mem Own Ro Sh Zs B (t++u) :=
 ⟨fun said=>noRace_appendMute (H.nr said) hn,fun g' hg' l hl'=>(H.own g' hg' l hl').app fun op hop b hb _=>(by rw[hn op hop] at hb;cases hb),fun g' hg' l hl'=>(H.rd g' hg' l hl').app fun op hop b hb _ _=>(by rw[hn op hop] at hb;cases hb),
  H.quiet.app fun op hop x hx _=>(by rw[hn op hop] at hx;cases hx),all_app H.all fun op hop=>.inl (hn op hop),seen_app H.low hl⟩
theorem TI.grow (H:TI Mem Own Ro Sh Zs B t)(hB:B≤B')(ho:∀g l,Mem g→Own' g l→Own g l∨∃b,B≤b∧(l=.obj b∨∃a:Addr,a.block=b∧l=.cell a)):TI Mem Own' Ro Sh Zs B' t:=by
 refine⟨H.nr,fun g hg l hl=>?_,H.rd,H.quiet,H.all,fun op hop=>MemAct.low_mono hB (H.low op hop)⟩
 rcases ho g l hg hl with h|⟨b,hb,h⟩
 ·exact H.own g hg l h
 ·intro q a ha e
  obtain⟨x,hx,hxa⟩:=touch_of ha
  have hlow:=H.low x (Array.mem_of_getElem? hx)
  have:∀y:Touch,x.act.touch?=some y→y.loc≠l:=by
   intro y hy e'
   generalize x.act=act at hlow hy
   cases act with
   | access ev =>
    simp only[MemAct.touch?,Option.some.injEq] at hy
    subst hy
    simp only at e'
    rcases h with rfl|⟨ad,rfl,rfl⟩
    ·simp only[MemAct.low,e',Loc.low] at hlow;omega
    ·simp only[MemAct.low,e',Loc.low] at hlow;omega
   | mark m =>
    cases m<;>simp only[MemAct.touch?,Option.some.injEq,reduceCtorEq] at hy
    all_goals
     subst hy
     simp only at e'
     rcases h with rfl|⟨ad,rfl,rfl⟩
     ·cases e'
     ·simp only[Loc.cell.injEq] at e'
      simp only[MemAct.low,e'] at hlow
      omega
   | _=>cases hy
  exact absurd e (this a hxa)
theorem TI.fork (H:TI Mem Own Ro Sh Zs B t){k:Nat}(hm:Mem 0)(hM:∀g,Mem' g→Mem g∨g=k)(hM':∀g,Mem g→Mem' g)(hk:Deaf t k=0)(h0:Deaf t 0=0){x y:MemOp}(hx:x.g=0∧x.act=.go k)(hy:y.g=k∧y.act=.start)
  (hO:∀g l,Mem' g→Own' g l→Mem g∧Own g l):TI Mem' Own' Ro Sh Zs B (t++#[x,y]):=by
 have hn:∀op∈#[x,y],op.act.touch?=none:=by
  intro op hop
  simp only[List.mem_toArray,List.mem_cons,List.not_mem_nil,or_false] at hop
  rcases hop with rfl|rfl
  ·rw[hx.2];rfl
  ·rw[hy.2];rfl
 have hlo:∀op∈#[x,y],op.act.low B:=by
  intro op hop
  simp only[List.mem_toArray,List.mem_cons,List.not_mem_nil,or_false] at hop
  rcases hop with rfl|rfl
  ·rw[hx.2];trivial
  ·rw[hy.2];trivial
 have H':=H.mute hn hlo
 refine⟨H'.nr,fun g hg l hl=>?_,fun g hg l hl i a ha e hw=>?_,H'.quiet,fun q a ha hmm=>?_,H'.low⟩
 ·obtain⟨h1,h2⟩:=hO g l hg hl
  exact H'.own g h1 l h2
 ·rcases hM g hg with h|rfl
  ·exact H'.rd g h l hl i a ha e hw
  ·have ha':touchAt t i=some a:=by
    obtain⟨z,hz,hza⟩:=touch_of ha
    rcases getElem?_append_cases hz with⟨_,hz'⟩|⟨_,hzu⟩
    ·rw[touchAt_of hz'];exact hza
    ·rw[hn z hzu] at hza;cases hza
   exact fork_knows hx hy h0 hk (H.rd 0 hm l hl i a ha' e hw)
 ·rcases H'.all q a ha hmm with⟨g,h1,h2,h3⟩|h|h
  ·exact .inl ⟨g,hM' g h1,h2,h3⟩
  ·exact .inr (.inl h)
  ·exact .inr (.inr h)
end
end Go.Proofs.YtjeicikflkjacaaGreatDoor.Ms
