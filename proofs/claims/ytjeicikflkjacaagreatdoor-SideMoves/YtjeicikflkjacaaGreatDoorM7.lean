/- Steps of a goroutine of its own, each the same in every world of a kind. -/
import Derived.Conc.QuitsD
import Derived.Conc.WalkWords
import Derived.Test.YtjeicikflkjacaaGreatDoorProg
import Derived.Conc.WgGenN2
import Derived.KernelRfl
import Derived.Conc.WgWords
namespace Go.Proofs.YtjeicikflkjacaaGreatDoor.Ms
open Go Go.Conc
inductive Sl (P:Program) (main:Bool) (B:World→Prop) (Ev:Event→Prop):Nat→Goroutine→Goroutine→Prop
 | nil (g:Goroutine):Sl P main B Ev 0 g g
 | cons {n:Nat} {g g1 g2:Goroutine} {es:Array Event} (hs:g.status=.running) (he:∀e∈es,Ev e) (h:∀w,B w→stepG P main g w=.go g1 w es) (t:Sl P main B Ev n g1 g2):Sl P main B Ev (n+1) g g2
section
variable {P:Program} {main:Bool} {B:World→Prop} {Ev:Event→Prop} {n m:Nat} {g g1 g2 g3:Goroutine}
theorem Sl.trans (h:Sl P main B Ev n g g2)(k:Sl P main B Ev m g2 g3):∃q,Sl P main B Ev q g g3:=by
 induction h with
 | nil=>exact⟨m,k⟩
 | cons hs he h _ ih=>exact let ⟨q,x⟩:=ih k;⟨q+1,.cons hs he h x⟩
theorem Sl.mono {B':World→Prop}{Ev':Event→Prop}(hB:∀w,B' w→B w)(hE:∀e,Ev e→Ev' e)(h:Sl P main B Ev n g g2):Sl P main B' Ev' n g g2:=by
 induction h with
 | nil=>exact .nil _
 | cons hs he h _ ih=>exact .cons hs (fun e x=>hE e (he e x)) (fun w x=>h w (hB w x)) ih
def To (P:Program)(main:Bool)(B:World→Prop)(Ev:Event→Prop)(Q:Goroutine→Prop)(g:Goroutine):Prop:=∃n g2,Sl P main B Ev n g g2∧Q g2
variable {Q Q':Goroutine→Prop}
theorem To.nil (h:Q g):To P main B Ev Q g:=⟨0,g,.nil g,h⟩
theorem To.cons {es:Array Event}(hs:g.status=.running)(he:∀e∈es,Ev e)(h:∀w,B w→stepG P main g w=.go g1 w es)(t:To P main B Ev Q g1):To P main B Ev Q g:=let ⟨n,g2,x,q⟩:=t;⟨n+1,g2,.cons hs he h x,q⟩
theorem To.ctl (hs:g.status=.running)(h:∀w,B w→stepG P main g w=.go g1 w)(t:To P main B Ev Q g1):To P main B Ev Q g:=.cons hs (by simp) h t
theorem To.bind (h:To P main B Ev Q g)(k:∀g,Q g→To P main B Ev Q' g):To P main B Ev Q' g:=by
 obtain⟨n,g2,x,q⟩:=h
 obtain⟨m,g3,y,q'⟩:=k g2 q
 obtain⟨r,z⟩:=x.trans y
 exact⟨r,g3,z,q'⟩
variable {b:Frame} {a:Act} {k:List Item} {cs:List Frame}
theorem To.value {ops:Array Oper}{i:Nat}{rest:List Nat}{o:Oper}(v:Value)(ho:ops[i]?=some o)(hw:Region.wanted o (yielded ops a.tmps)=true)(hk:b.kind≠.early)
  (hr:∀w,B w→(execOp a.eval o).run P w=.ok (.value v) w) (he:∀w,B w→(execOp a.eval o).events P w #[]=#[])
  (t:To P main B Ev Q (G (b.at (a.put o.dst v) (.inRegion ops rest :: k)) cs)):To P main B Ev Q (G (b.at a (.inRegion ops (i :: rest) :: k)) cs) :=
 .ctl rfl (fun w hB=>by rw[stepG_value ho hw hk (hr w hB)];unfold listed;rw[he w hB,seen_none]) t
theorem To.load {ops:Array Oper}{i:Nat}{rest:List Nat}{o:Oper}{ad:Addr}(v:Value)(ho:ops[i]?=some o)(hw:Region.wanted o (yielded ops a.tmps)=true)(hk:b.kind≠.early)
  (hr:∀w,B w→(execOp a.eval o).run P w=.ok (.value v) w) (he:∀w,B w→(execOp a.eval o).events P w #[]=#[⟨.cell ad,false,false⟩]) (hq:(P.funcs[b.fn]?).any (·.norace)=false) (hE:Ev ⟨.cell ad,false,false⟩)
  (t:To P main B Ev Q (G (b.at (a.put o.dst v) (.inRegion ops rest :: k)) cs)):To P main B Ev Q (G (b.at a (.inRegion ops (i :: rest) :: k)) cs) :=
 .cons rfl (by intro e h;rw[Array.mem_singleton] at h;subst h;exact hE) (fun w hB=>by rw[stepG_value ho hw hk (hr w hB)];unfold listed;rw[he w hB,seen_eq hq (by simp)]) t
theorem To.unwanted {ops:Array Oper}{i:Nat}{rest:List Nat}{o:Oper}(ho:ops[i]?=some o)(hw:Region.wanted o (yielded ops a.tmps)=false)
  (t:To P main B Ev Q (G (b.at (a.put o.dst undef) (.inRegion ops rest :: k)) cs)):To P main B Ev Q (G (b.at a (.inRegion ops (i :: rest) :: k)) cs):=.ctl rfl (fun _ _=>stepG_unwanted ho hw) t
theorem To.call {ops:Array Oper}{i:Nat}{rest:List Nat}{o:Oper}{f:FuncId}{fn:Func}{c:Code}{args:Array Operand}{ats:Array TypeId}
  (ho:ops[i]?=some o) (hw:Region.wanted o (yielded ops a.tmps)=true) (hk:b.kind≠.early) (hop:o.op=.call { callee:=.value (.func f),args,argTypes:=ats })
  (hf : P.funcs[f]? = some fn) (hname : (fn.name == "runtime.NumGoroutine") = false) (hb : fn.body = some c)
  (t:To P main B Ev Q (G ((base f).at { tmps:=args.map a.eval++Array.replicate (fn.ntmps - (args.map a.eval).size) undef,defers:=[] } [.code c]) (b.at a (.inRegion ops (i :: rest) :: k) :: cs))) :
  To P main B Ev Q (G (b.at a (.inRegion ops (i :: rest) :: k)) cs):=by
 have hb':fn.body.isNone=false:=by rw[hb];rfl
 refine .ctl rfl (fun w _=>?_) t
 rw[stepG_enter ho hw hk (run_call_body hop hf hname hb'),enter_at _ hf hb]
 have:listed P b.fn a o w=#[]:=by unfold listed;rw[events_call_body hop hf hname hb'];exact seen_none P _
 rw[this]
section
variable {fn:Func} {todo:List Item} {b₀:Frame} {a₀:Act} {ops:Array Oper} {i:Nat} {rest:List Nat}
theorem To.leave0 (hn:b.kind=.normal)(hd:a.defers=[])(hf:P.funcs[b.fn]?=some fn)(hr:fn.results=#[])
  (t:To P main B Ev Q (G (b₀.at (a₀.put ((ops[i]?).bind (·.dst)) (.tuple #[])) (.inRegion ops rest :: k)) cs)) :
  To P main B Ev Q (G { b.at a todo with mode:=.returning } (b₀.at a₀ (.inRegion ops (i :: rest) :: k) :: cs)) :=
 .ctl rfl (fun w _=>by rw[stepG_leave hn hd hf (results_none hr _ P w) (events_results_none hr _ _),Frame.finish_at]) t
theorem To.leave1 {x:Tmp}(hn:b.kind=.normal)(hd:a.defers=[])(hf:P.funcs[b.fn]?=some fn)(hr:fn.results=#[.tmp x])
  (t:To P main B Ev Q (G (b₀.at (a₀.put ((ops[i]?).bind (·.dst)) (a.tmps.getD x undef)) (.inRegion ops rest :: k)) cs)) :
  To P main B Ev Q (G { b.at a todo with mode:=.returning } (b₀.at a₀ (.inRegion ops (i :: rest) :: k) :: cs)) :=
 .ctl rfl (fun w _=>by rw[stepG_leave hn hd hf (results_tmp hr _ P w) (events_results_tmp hr _ _),Frame.finish_at]) t
end
end
end Go.Proofs.YtjeicikflkjacaaGreatDoor.Ms

/- sync.WaitGroup's functions and types under this program's numbers. -/
namespace Go.Proofs.YtjeicikflkjacaaGreatDoor.Ms
open Go Go.Conc Go.Conc.Lib
abbrev lk:WgLink:={ add:=41,done:=43,wait:=45,relMerge:=57,disable:=58,enable:=59,inBubble:=60,associate:=61,fatal:=62,uOr:=63,uAdd:=64,raceRead:=65,uLoad:=66,uStore:=67,disassociate:=68,semrelease:=69,acquire:=70,isAssociated:=71,uCas:=72,raceWrite:=73,semacquire:=74,orU64:=82,addU64:=83,loadU64:=84,storeU64:=85,casU64:=86,tWgP:=118,tUP:=103,tAssoc:=120,tWg:=93,tAU:=90,tU64:=46,tUint:=117,tU32:=91,tPU32:=124,tPAU:=153,tPU64:=155,tNoCopy:=86,tANoCopy:=87,tAlign64:=88 }
theorem wgLib:WgLib Tryz.prog lk :=
 ⟨Tryz.func41,Tryz.func43,Tryz.func45,Tryz.func57,Tryz.func58,Tryz.func59,Tryz.func60,Tryz.func61,Tryz.func62,Tryz.func63,Tryz.func64,Tryz.func65,Tryz.func66,Tryz.func67,Tryz.func68,Tryz.func69,Tryz.func70,Tryz.func71,Tryz.func72,Tryz.func73,Tryz.func74,Tryz.func82,Tryz.func83,Tryz.func84,Tryz.func85,Tryz.func86,Tryz.underlying118,Tryz.runUnderlying118,Tryz.sizeOf118,Tryz.isAgg118,Tryz.zeroValue118,Tryz.underlying103,Tryz.runUnderlying103,Tryz.sizeOf103,Tryz.isAgg103,Tryz.zeroValue103,Tryz.underlying120,Tryz.runUnderlying120,Tryz.sizeOf120,Tryz.isAgg120,Tryz.zeroValue120,Tryz.underlying93,Tryz.runUnderlying93,Tryz.sizeOf93,Tryz.isAgg93,Tryz.zeroValue93,Tryz.underlying90,Tryz.runUnderlying90,Tryz.sizeOf90,Tryz.isAgg90,Tryz.zeroValue90,Tryz.underlying46,Tryz.runUnderlying46,Tryz.sizeOf46,Tryz.isAgg46,Tryz.zeroValue46,Tryz.underlying117,Tryz.runUnderlying117,Tryz.sizeOf117,Tryz.isAgg117,Tryz.zeroValue117,Tryz.underlying91,Tryz.runUnderlying91,Tryz.sizeOf91,Tryz.isAgg91,Tryz.zeroValue91,Tryz.underlying124,Tryz.runUnderlying124,Tryz.sizeOf124,Tryz.isAgg124,Tryz.zeroValue124,Tryz.underlying153,Tryz.runUnderlying153,Tryz.sizeOf153,Tryz.isAgg153,Tryz.zeroValue153,Tryz.underlying155,Tryz.runUnderlying155,Tryz.sizeOf155,Tryz.isAgg155,Tryz.zeroValue155,Tryz.underlying0,Tryz.runUnderlying0,Tryz.sizeOf0,Tryz.isAgg0,Tryz.zeroValue0,Tryz.underlying3,Tryz.runUnderlying3,Tryz.sizeOf3,Tryz.isAgg3,Tryz.zeroValue3,Tryz.underlying4,Tryz.runUnderlying4,Tryz.sizeOf4,Tryz.isAgg4,Tryz.zeroValue4,Tryz.underlying9,Tryz.runUnderlying9,Tryz.sizeOf9,Tryz.isAgg9,Tryz.zeroValue9,Tryz.underlying20,Tryz.runUnderlying20,Tryz.sizeOf20,Tryz.isAgg20,Tryz.zeroValue20,Tryz.underlying21,Tryz.runUnderlying21,Tryz.sizeOf21,Tryz.isAgg21,Tryz.zeroValue21,(by kernel_rfl),(by kernel_rfl)⟩
instance:Go.ConcR.Payload:=⟨0⟩
end Go.Proofs.YtjeicikflkjacaaGreatDoor.Ms

/- A worker: its own steps between what it does with others. -/
set_option linter.unusedSimpArgs false
namespace Go.Proofs.YtjeicikflkjacaaGreatDoor.Ms
open Go Go.Conc Go.Conc.Lib Go.RowKit Go.ConcR.Gen
structure Kt where
 wg:Nat
 bN:Nat
 bK:Nat
 bR:Nat
 cN:Nat
 cR:Nat
 fw:FuncId
 cap:Array Value
structure Bx (k:Kt)(w:World):Prop where
 n:w.cell? ⟨k.bN,0,none⟩=some (.chan (some k.cN))
 f:w.cell? ⟨k.bK,0,none⟩=some (.func (.func k.fw) #[] k.cap)
 r:w.cell? ⟨k.bR,0,none⟩=some (.chan (some k.cR))
def EvB (k:Kt)(e:Event):Prop:=∃b,(b=k.bN∨b=k.bK∨b=k.bR)∧e=⟨.cell ⟨b,0,none⟩,false,false⟩
noncomputable def bot:Frame:={ (default:Frame) with fn:=Tryz.prog.funcs.size,defers:=[],mode:=.panicking [goexitEntry] }
noncomputable def body42:Code:=Tryz.f42.body.getD .skip
def dn (k:Kt):Deferred:=dcall 43 #[.pointer (some ⟨k.wg,0,none⟩)]
def call42 (k:Kt):Deferred:={ target:=.fn (.func 42) #[.pointer (some ⟨k.wg,0,none⟩),.pointer (some ⟨k.bN,0,none⟩),.pointer (some ⟨k.bK,0,none⟩),.pointer (some ⟨k.bR,0,none⟩)],args:=#[] }
noncomputable def W42 (k:Kt)(t:Array Value)(todo:List Item):Goroutine:=G ((baseD 42).at ⟨t,[dn k]⟩ todo) [bot]
noncomputable def lp:Code:=match body42 with|.seq _ (.seq _ (.block _ (.loop c)))=>c|_=>.skip
noncomputable def opsR:Array Oper:=match lp with|.seq (.region _ o _) _=>o|_=>#[]
noncomputable def cR1:Code:=match lp with|.seq _ c=>c|_=>.skip
noncomputable def bl1:Code:=match cR1 with|.seq _ (.block _ c)=>c|_=>.skip
noncomputable def opsC:Array Oper:=match bl1 with|.seq _ (.seq (.region _ o _) _)=>o|_=>#[]
noncomputable def cS:Code:=match bl1 with|.seq _ (.seq _ c)=>c|_=>.skip
noncomputable def opsS:Array Oper:=match cS with|.region _ o _=>o|_=>#[]
theorem loud42:(Tryz.prog.funcs[(baseD 42).fn]?).any (·.norace)=false:=by kernel_rfl
def RecvG (k:Kt)(g:Goroutine):Prop:=∃x4 x5 x6 x8 x9 x10 x11 x12 x13 x14 x15 x16 x17 x18 x19 x20 x21,g=W42 k #[.pointer (some ⟨k.wg,0,none⟩),.pointer (some ⟨k.bN,0,none⟩),.pointer (some ⟨k.bK,0,none⟩),.pointer (some ⟨k.bR,0,none⟩),x4,x5,x6,.chan (some k.cN),x8,x9,x10,x11,x12,x13,x14,x15,x16,x17,x18,x19,x20,x21] [.inRegion opsR [0,1],.code cR1,.inLoop lp,.inBlock 0]
def CallG (k:Kt)(i:Int)(g:Goroutine):Prop:=∃x5 x6 x8 x9 x10 x11 x14 x15 x16 x17 x18 x19 x20 x21,g=W42 k #[.pointer (some ⟨k.wg,0,none⟩),.pointer (some ⟨k.bN,0,none⟩),.pointer (some ⟨k.bK,0,none⟩),.pointer (some ⟨k.bR,0,none⟩),.int .i64 i,x5,x6,.chan (some k.cN),x8,x9,x10,x11,.func (.func k.fw) #[] k.cap,.int .i64 i,x14,x15,x16,x17,x18,x19,x20,x21] [.inRegion opsC [2,3,4,5,6,7],.code cS,.inBlock 1,.inLoop lp,.inBlock 0]
def SendG (k:Kt)(i:Int)(a:Int)(e:Value)(g:Goroutine):Prop:=∃x4 x5 x6 x8 x9 x10 x11 x12 x13 x14 x15 x16 x18 x19 x20,g=W42 k #[.pointer (some ⟨k.wg,0,none⟩),.pointer (some ⟨k.bN,0,none⟩),.pointer (some ⟨k.bK,0,none⟩),.pointer (some ⟨k.bR,0,none⟩),x4,x5,x6,.chan (some k.cN),x8,x9,x10,x11,x12,x13,x14,x15,x16,.chan (some k.cR),x18,x19,x20,.agg #[.int .i64 i,.int .i64 a,e]] [.inRegion opsS [5],.inBlock 1,.inLoop lp,.inBlock 0]
section
variable (k:Kt)
theorem born_step (w:World):stepG Tryz.prog false (born Tryz.prog (call42 k)) w =
  .go (G ((baseD 42).at ⟨#[.pointer (some ⟨k.wg,0,none⟩),.pointer (some ⟨k.bN,0,none⟩),.pointer (some ⟨k.bK,0,none⟩),.pointer (some ⟨k.bR,0,none⟩),undef,undef,undef,undef,undef,undef,undef,undef,undef,undef,undef,undef,undef,undef,undef,undef,undef,undef],[]⟩ [.code body42]) [bot]) w #[]:=by
 simp[born,call42,stepG,unwind,callDeferred,invoke,callFunc,Tryz.func42,Tryz.f42,seen,GStep.after,G,Frame.enter,Frame.at,baseD,bot,body42]
set_option maxRecDepth 100000 in
set_option maxHeartbeats 4000000 in
theorem w_start:To Tryz.prog false (Bx k) (EvB k) (RecvG k) (born Tryz.prog (call42 k)):=by
 refine To.ctl rfl (fun w _=>born_step k w) ?_
 simp only[body42,Tryz.f42,Option.getD_some]
 repeat (first
  | refine To.ctl rfl (fun _ _=>stepG_seq) ?_
  | refine To.ctl rfl (fun _ _=>stepG_skip) ?_
  | refine To.ctl rfl (fun _ _=>stepG_block) ?_
  | refine To.ctl rfl (fun _ _=>stepG_loop) ?_
  | refine To.ctl rfl (fun _ _=>stepG_inLoop) ?_
  | refine To.ctl rfl (fun _ _=>stepG_inBlock) ?_
  | refine To.ctl rfl (fun _ _=>stepG_region_end) ?_
  | (refine To.ctl rfl (fun _ _=>stepG_region) ?_;simp only[List.size_toArray,List.length_cons,List.length_nil,Nat.reduceAdd,Nat.zero_add,List.range,List.range.loop])
  | (refine To.ctl rfl (fun _ _=>stepG_cond (t:=true) rfl) ?_;simp only[if_true,if_false,Bool.false_eq_true,↓reduceIte])
  | (refine To.ctl rfl (fun _ _=>stepG_cond (t:=false) rfl) ?_;simp only[if_true,if_false,Bool.false_eq_true,↓reduceIte])
  | (refine To.ctl rfl (fun _ _=>stepG_exit rfl) ?_)
  | (refine To.value _ rfl rfl (by k_ne) (fun _ _=>by go_simp<;>rfl) (fun _ _=>by simp[go_sem]) ?_;walk_nrm))
 (refine To.ctl rfl (fun _ _=>stepG_defer rfl rfl (by k_ne) rfl) ?_;walk_nrm)
 repeat (first
  | refine To.ctl rfl (fun _ _=>stepG_seq) ?_
  | refine To.ctl rfl (fun _ _=>stepG_skip) ?_
  | refine To.ctl rfl (fun _ _=>stepG_block) ?_
  | refine To.ctl rfl (fun _ _=>stepG_loop) ?_
  | refine To.ctl rfl (fun _ _=>stepG_inLoop) ?_
  | refine To.ctl rfl (fun _ _=>stepG_inBlock) ?_
  | refine To.ctl rfl (fun _ _=>stepG_region_end) ?_
  | (refine To.ctl rfl (fun _ _=>stepG_region) ?_;simp only[List.size_toArray,List.length_cons,List.length_nil,Nat.reduceAdd,Nat.zero_add,List.range,List.range.loop])
  | (refine To.ctl rfl (fun _ _=>stepG_cond (t:=true) rfl) ?_;simp only[if_true,if_false,Bool.false_eq_true,↓reduceIte])
  | (refine To.ctl rfl (fun _ _=>stepG_cond (t:=false) rfl) ?_;simp only[if_true,if_false,Bool.false_eq_true,↓reduceIte])
  | (refine To.ctl rfl (fun _ _=>stepG_exit rfl) ?_)
  | (refine To.value _ rfl rfl (by k_ne) (fun _ _=>by go_simp<;>rfl) (fun _ _=>by simp[go_sem]) ?_;walk_nrm))
 refine To.load (.chan (some k.cN)) rfl rfl (by k_ne) (fun w hB=>by have h1:=hB.n;go_simp) (fun w hB=>by have h1:=hB.n;simp[go_sem,h1]) loud42 ⟨k.bN,.inl rfl,rfl⟩ ?_
 walk_nrm
 repeat (first
  | refine To.ctl rfl (fun _ _=>stepG_seq) ?_
  | refine To.ctl rfl (fun _ _=>stepG_skip) ?_
  | refine To.ctl rfl (fun _ _=>stepG_block) ?_
  | refine To.ctl rfl (fun _ _=>stepG_loop) ?_
  | refine To.ctl rfl (fun _ _=>stepG_inLoop) ?_
  | refine To.ctl rfl (fun _ _=>stepG_inBlock) ?_
  | refine To.ctl rfl (fun _ _=>stepG_region_end) ?_
  | (refine To.ctl rfl (fun _ _=>stepG_region) ?_;simp only[List.size_toArray,List.length_cons,List.length_nil,Nat.reduceAdd,Nat.zero_add,List.range,List.range.loop])
  | (refine To.ctl rfl (fun _ _=>stepG_cond (t:=true) rfl) ?_;simp only[if_true,if_false,Bool.false_eq_true,↓reduceIte])
  | (refine To.ctl rfl (fun _ _=>stepG_cond (t:=false) rfl) ?_;simp only[if_true,if_false,Bool.false_eq_true,↓reduceIte])
  | (refine To.ctl rfl (fun _ _=>stepG_exit rfl) ?_)
  | (refine To.value _ rfl rfl (by k_ne) (fun _ _=>by go_simp<;>rfl) (fun _ _=>by simp[go_sem]) ?_;walk_nrm))
 exact To.nil ⟨_,_,_,_,_,_,_,_,_,_,_,_,_,_,_,_,_,rfl⟩
set_option maxRecDepth 100000 in
theorem recv_comm {g:Goroutine}(h:RecvG k g)(w:World):stepG Tryz.prog false g w=.comm g #[rcase k.cN (.int .i64 0)] true (.recv true) w #[]:=by
 obtain⟨x4,x5,x6,x8,x9,x10,x11,x12,x13,x14,x15,x16,x17,x18,x19,x20,x21,rfl⟩:=h
 have:=stepG_comm (P:=Tryz.prog) (main:=false) (b:=baseD 42) (a:=⟨#[.pointer (some ⟨k.wg,0,none⟩),.pointer (some ⟨k.bN,0,none⟩),.pointer (some ⟨k.bK,0,none⟩),.pointer (some ⟨k.bR,0,none⟩),x4,x5,x6,.chan (some k.cN),x8,x9,x10,x11,x12,x13,x14,x15,x16,x17,x18,x19,x20,x21],[dn k]⟩) (k:=[.code cR1,.inLoop lp,.inBlock 0]) (cs:=[bot]) (w:=w) (w':=w) (ops:=opsR) (i:=0) (rest:=[1]) (cases:=#[rcase k.cN (.int .i64 0)]) (blocking:=true) (shape:=.recv true) rfl rfl (by k_ne) (by go_simp;rfl)
 rw[W42,this]
 congr 1
set_option maxRecDepth 100000 in
set_option maxHeartbeats 4000000 in
theorem w_got {g:Goroutine}(h:RecvG k g)(i:Int):To Tryz.prog false (Bx k) (EvB k) (CallG k i) (g.finishComm Tryz.prog #[rcase k.cN (.int .i64 0)] (.recv true) 0 (.int .i64 i) true):=by
 obtain⟨x4,x5,x6,x8,x9,x10,x11,x12,x13,x14,x15,x16,x17,x18,x19,x20,x21,rfl⟩:=h
 show To _ _ _ _ _ (W42 k #[.pointer (some ⟨k.wg,0,none⟩),.pointer (some ⟨k.bN,0,none⟩),.pointer (some ⟨k.bK,0,none⟩),.pointer (some ⟨k.bR,0,none⟩),x4,x5,x6,.chan (some k.cN),.tuple #[.int .i64 i,.bool true],x9,x10,x11,x12,x13,x14,x15,x16,x17,x18,x19,x20,x21] [.inRegion opsR [1],.code cR1,.inLoop lp,.inBlock 0])
 simp only[W42,opsR,cR1,lp,body42,Tryz.f42,Option.getD_some]
 repeat (first
  | refine To.ctl rfl (fun _ _=>stepG_seq) ?_
  | refine To.ctl rfl (fun _ _=>stepG_skip) ?_
  | refine To.ctl rfl (fun _ _=>stepG_block) ?_
  | refine To.ctl rfl (fun _ _=>stepG_loop) ?_
  | refine To.ctl rfl (fun _ _=>stepG_inLoop) ?_
  | refine To.ctl rfl (fun _ _=>stepG_inBlock) ?_
  | refine To.ctl rfl (fun _ _=>stepG_region_end) ?_
  | (refine To.ctl rfl (fun _ _=>stepG_region) ?_;simp only[List.size_toArray,List.length_cons,List.length_nil,Nat.reduceAdd,Nat.zero_add,List.range,List.range.loop])
  | (refine To.ctl rfl (fun _ _=>stepG_cond (t:=true) rfl) ?_;simp only[if_true,if_false,Bool.false_eq_true,↓reduceIte])
  | (refine To.ctl rfl (fun _ _=>stepG_cond (t:=false) rfl) ?_;simp only[if_true,if_false,Bool.false_eq_true,↓reduceIte])
  | (refine To.ctl rfl (fun _ _=>stepG_exit rfl) ?_)
  | (refine To.value _ rfl rfl (by k_ne) (fun _ _=>by go_simp<;>rfl) (fun _ _=>by simp[go_sem]) ?_;walk_nrm))
 refine To.load (.func (.func k.fw) #[] k.cap) rfl rfl (by k_ne) (fun w hB=>by have h1:=hB.f;go_simp) (fun w hB=>by have h1:=hB.f;simp[go_sem,h1]) loud42 ⟨k.bK,.inr (.inl rfl),rfl⟩ ?_
 walk_nrm
 repeat (first
  | refine To.ctl rfl (fun _ _=>stepG_seq) ?_
  | refine To.ctl rfl (fun _ _=>stepG_skip) ?_
  | refine To.ctl rfl (fun _ _=>stepG_block) ?_
  | refine To.ctl rfl (fun _ _=>stepG_loop) ?_
  | refine To.ctl rfl (fun _ _=>stepG_inLoop) ?_
  | refine To.ctl rfl (fun _ _=>stepG_inBlock) ?_
  | refine To.ctl rfl (fun _ _=>stepG_region_end) ?_
  | (refine To.ctl rfl (fun _ _=>stepG_region) ?_;simp only[List.size_toArray,List.length_cons,List.length_nil,Nat.reduceAdd,Nat.zero_add,List.range,List.range.loop])
  | (refine To.ctl rfl (fun _ _=>stepG_cond (t:=true) rfl) ?_;simp only[if_true,if_false,Bool.false_eq_true,↓reduceIte])
  | (refine To.ctl rfl (fun _ _=>stepG_cond (t:=false) rfl) ?_;simp only[if_true,if_false,Bool.false_eq_true,↓reduceIte])
  | (refine To.ctl rfl (fun _ _=>stepG_exit rfl) ?_)
  | (refine To.value _ rfl rfl (by k_ne) (fun _ _=>by go_simp<;>rfl) (fun _ _=>by simp[go_sem]) ?_;walk_nrm))
 exact To.nil ⟨_,_,_,_,_,_,_,_,_,_,_,_,_,_,rfl⟩
end
end Go.Proofs.YtjeicikflkjacaaGreatDoor.Ms

/- A worker: its work, and its end. -/
set_option linter.unusedSimpArgs false
namespace Go.Proofs.YtjeicikflkjacaaGreatDoor.Ms
open Go Go.Conc Go.Conc.Lib Go.RowKit Go.ConcR.Gen
section
variable (k:Kt)
theorem made_run (i a:Int){e:Value}(he:e=.nilIface∨∃t v,e=.iface t v)(w:World):(Instr.build 65 #[(0,.int .i64 i),(1,.int .i64 a),(2,e)]).run Tryz.prog w=.ok (.agg #[.int .i64 i,.int .i64 a,e]) w:=by
 rcases he with rfl|⟨t,v,rfl⟩
 ·exact run_build w _ _ _ (by kernel_rfl)
 ·exact run_build w _ _ _ (by kernel_rfl)
theorem made_events (i a:Int){e:Value}(he:e=.nilIface∨∃t v,e=.iface t v)(w:World):(Instr.build 65 #[(0,.int .i64 i),(1,.int .i64 a),(2,e)]).events Tryz.prog w #[]=#[]:=by
 rcases he with rfl|⟨t,v,rfl⟩<;>kernel_rfl
set_option maxRecDepth 100000 in
set_option maxHeartbeats 4000000 in
theorem call_enter {i : Int} {g : Goroutine} (h : CallG k i g) {fn : Func} (hf : Tryz.prog.funcs[k.fw]? = some fn) (hn : (fn.name == "runtime.NumGoroutine") = false) (hb : fn.body.isNone = false) :
  ∃c0:Frame,g.status=.running∧(∀w,stepG Tryz.prog false g w=.go (G (Frame.enter Tryz.prog k.fw (#[.int .i64 i]++k.cap) .normal) [c0,bot]) w #[]) ∧
   ∀(a:Int) (e:Value),(e=.nilIface∨∃t v,e=.iface t v)→To Tryz.prog false (Bx k) (EvB k) (SendG k i a e) (G (c0.finish (.tuple #[.int .i64 a,e])) [bot]):=by
 obtain⟨x5,x6,x8,x9,x10,x11,x14,x15,x16,x17,x18,x19,x20,x21,rfl⟩:=h
 have hne : ¬ fn.name = "runtime.NumGoroutine" := by simpa using hn
 have hbn:¬fn.body=none:=by intro h;rw[h] at hb;cases hb
 refine⟨(baseD 42).at ⟨#[.pointer (some ⟨k.wg,0,none⟩),.pointer (some ⟨k.bN,0,none⟩),.pointer (some ⟨k.bK,0,none⟩),.pointer (some ⟨k.bR,0,none⟩),.int .i64 i,x5,x6,.chan (some k.cN),x8,x9,x10,x11,.func (.func k.fw) #[] k.cap,.int .i64 i,x14,x15,x16,x17,x18,x19,x20,x21],[dn k]⟩ [.inRegion opsC [2,3,4,5,6,7],.code cS,.inBlock 1,.inLoop lp,.inBlock 0],rfl,fun w=>?_,fun a e he=>?_⟩
 ·have hr : (execOp (Act.eval ⟨#[.pointer (some ⟨k.wg, 0, none⟩), .pointer (some ⟨k.bN, 0, none⟩), .pointer (some ⟨k.bK, 0, none⟩), .pointer (some ⟨k.bR, 0, none⟩), .int .i64 i, x5, x6, .chan (some k.cN), x8, x9, x10, x11, .func (.func k.fw) #[] k.cap, .int .i64 i, x14, x15, x16, x17, x18, x19, x20, x21], [dn k]⟩) { dst := some 14, op := .call { callee := .value (.tmp 12), args := #[.tmp 13], argTypes := #[3] }, type := 36, pos := "side.go:69", after := #[{ on := 0, ground := .data }, { on := 1, ground := .data }], guard := none }).run Tryz.prog w = .ok (.enter k.fw (#[.int .i64 i] ++ k.cap)) w := by
   simp[execOp,resolve,Deferred.ofValue,invoke,callFunc,hf,hne,hbn,Act.eval]
  have hl : (execOp (Act.eval ⟨#[.pointer (some ⟨k.wg, 0, none⟩), .pointer (some ⟨k.bN, 0, none⟩), .pointer (some ⟨k.bK, 0, none⟩), .pointer (some ⟨k.bR, 0, none⟩), .int .i64 i, x5, x6, .chan (some k.cN), x8, x9, x10, x11, .func (.func k.fw) #[] k.cap, .int .i64 i, x14, x15, x16, x17, x18, x19, x20, x21], [dn k]⟩) { dst := some 14, op := .call { callee := .value (.tmp 12), args := #[.tmp 13], argTypes := #[3] }, type := 36, pos := "side.go:69", after := #[{ on := 0, ground := .data }, { on := 1, ground := .data }], guard := none }).events Tryz.prog w #[] = #[] := by
   simp[execOp,resolve,Deferred.ofValue,invoke,callFunc,hf,hne,hbn,Act.eval]
  have:=stepG_enter (P:=Tryz.prog) (main:=false) (b:=baseD 42) (a:=⟨#[.pointer (some ⟨k.wg,0,none⟩),.pointer (some ⟨k.bN,0,none⟩),.pointer (some ⟨k.bK,0,none⟩),.pointer (some ⟨k.bR,0,none⟩),.int .i64 i,x5,x6,.chan (some k.cN),x8,x9,x10,x11,.func (.func k.fw) #[] k.cap,.int .i64 i,x14,x15,x16,x17,x18,x19,x20,x21],[dn k]⟩) (k:=[.code cS,.inBlock 1,.inLoop lp,.inBlock 0]) (cs:=[bot]) (w:=w) (ops:=opsC) (i:=2) (rest:=[3,4,5,6,7]) rfl rfl (by k_ne) hr
  rw[W42,this]
  have hs:=congrArg (seen Tryz.prog (baseD 42).fn) hl
  rw[seen_none] at hs
  exact congrArg (fun x=>GStep.go _ w x) hs
 ·show To _ _ _ _ _ (W42 k #[.pointer (some ⟨k.wg,0,none⟩),.pointer (some ⟨k.bN,0,none⟩),.pointer (some ⟨k.bK,0,none⟩),.pointer (some ⟨k.bR,0,none⟩),.int .i64 i,x5,x6,.chan (some k.cN),x8,x9,x10,x11,.func (.func k.fw) #[] k.cap,.int .i64 i,.tuple #[.int .i64 a,e],x15,x16,x17,x18,x19,x20,x21] [.inRegion opsC [3,4,5,6,7],.code cS,.inBlock 1,.inLoop lp,.inBlock 0])
  simp only[W42,opsC,cS,bl1,cR1,lp,body42,Tryz.f42,Option.getD_some]
  rcases he with rfl|⟨t,v,rfl⟩
  all_goals
   repeat (first
  | refine To.ctl rfl (fun _ _=>stepG_seq) ?_
  | refine To.ctl rfl (fun _ _=>stepG_skip) ?_
  | refine To.ctl rfl (fun _ _=>stepG_block) ?_
  | refine To.ctl rfl (fun _ _=>stepG_loop) ?_
  | refine To.ctl rfl (fun _ _=>stepG_inLoop) ?_
  | refine To.ctl rfl (fun _ _=>stepG_inBlock) ?_
  | refine To.ctl rfl (fun _ _=>stepG_region_end) ?_
  | (refine To.ctl rfl (fun _ _=>stepG_region) ?_;simp only[List.size_toArray,List.length_cons,List.length_nil,Nat.reduceAdd,Nat.zero_add,List.range,List.range.loop])
  | (refine To.ctl rfl (fun _ _=>stepG_cond (t:=true) rfl) ?_;simp only[if_true,if_false,Bool.false_eq_true,↓reduceIte])
  | (refine To.ctl rfl (fun _ _=>stepG_cond (t:=false) rfl) ?_;simp only[if_true,if_false,Bool.false_eq_true,↓reduceIte])
  | (refine To.ctl rfl (fun _ _=>stepG_exit rfl) ?_)
  | (refine To.value _ rfl rfl (by k_ne) (fun _ _=>by go_simp<;>rfl) (fun _ _=>by simp[go_sem]) ?_;walk_nrm))
   refine To.load (.chan (some k.cR)) rfl rfl (by k_ne) (fun w hB=>by have h1:=hB.r;go_simp) (fun w hB=>by have h1:=hB.r;simp[go_sem,h1]) loud42 ⟨k.bR,.inr (.inr rfl),rfl⟩ ?_
   walk_nrm
   repeat (first
  | refine To.ctl rfl (fun _ _=>stepG_seq) ?_
  | refine To.ctl rfl (fun _ _=>stepG_skip) ?_
  | refine To.ctl rfl (fun _ _=>stepG_block) ?_
  | refine To.ctl rfl (fun _ _=>stepG_loop) ?_
  | refine To.ctl rfl (fun _ _=>stepG_inLoop) ?_
  | refine To.ctl rfl (fun _ _=>stepG_inBlock) ?_
  | refine To.ctl rfl (fun _ _=>stepG_region_end) ?_
  | (refine To.ctl rfl (fun _ _=>stepG_region) ?_;simp only[List.size_toArray,List.length_cons,List.length_nil,Nat.reduceAdd,Nat.zero_add,List.range,List.range.loop])
  | (refine To.ctl rfl (fun _ _=>stepG_cond (t:=true) rfl) ?_;simp only[if_true,if_false,Bool.false_eq_true,↓reduceIte])
  | (refine To.ctl rfl (fun _ _=>stepG_cond (t:=false) rfl) ?_;simp only[if_true,if_false,Bool.false_eq_true,↓reduceIte])
  | (refine To.ctl rfl (fun _ _=>stepG_exit rfl) ?_)
  | (refine To.value _ rfl rfl (by k_ne) (fun _ _=>by go_simp<;>rfl) (fun _ _=>by simp[go_sem]) ?_;walk_nrm))
   refine To.value (.agg #[.int .i64 i,.int .i64 a,_]) rfl rfl (by k_ne) (fun w _=>by go_simp;rw[made_run i a (by simp)];rfl) (fun w _=>by simp[go_sem,made_events i a]) ?_
   walk_nrm
   exact To.nil ⟨_,_,_,_,_,_,_,_,_,_,_,_,_,_,_,rfl⟩
set_option maxRecDepth 100000 in
theorem send_comm {i a:Int}{e:Value}{g:Goroutine}(h:SendG k i a e g)(w:World):g.status=.running∧∃z,stepG Tryz.prog false g w=.comm g #[scase k.cR (.agg #[.int .i64 i,.int .i64 a,e]) z] true .send w #[]:=by
 obtain⟨x4,x5,x6,x8,x9,x10,x11,x12,x13,x14,x15,x16,x18,x19,x20,rfl⟩:=h
 refine⟨rfl,undef,?_⟩
 have:=stepG_comm (P:=Tryz.prog) (main:=false) (b:=baseD 42) (a:=⟨#[.pointer (some ⟨k.wg,0,none⟩),.pointer (some ⟨k.bN,0,none⟩),.pointer (some ⟨k.bK,0,none⟩),.pointer (some ⟨k.bR,0,none⟩),x4,x5,x6,.chan (some k.cN),x8,x9,x10,x11,x12,x13,x14,x15,x16,.chan (some k.cR),x18,x19,x20,.agg #[.int .i64 i,.int .i64 a,e]],[dn k]⟩) (k:=[.inBlock 1,.inLoop lp,.inBlock 0]) (cs:=[bot]) (w:=w) (w':=w) (ops:=opsS) (i:=5) (rest:=[]) (cases:=#[scase k.cR (.agg #[.int .i64 i,.int .i64 a,e]) undef]) (blocking:=true) (shape:=.send) rfl rfl (by k_ne) (by go_simp;rfl)
 rw[W42,this]
 congr 1
set_option maxRecDepth 100000 in
set_option maxHeartbeats 4000000 in
theorem w_sent {i a:Int}{e:Value}{g:Goroutine}(h:SendG k i a e g)(cases:Array CommCase)(j:Int)(v:Value)(ok:Bool):To Tryz.prog false (Bx k) (EvB k) (RecvG k) (g.finishComm Tryz.prog cases .send j v ok):=by
 obtain⟨x4,x5,x6,x8,x9,x10,x11,x12,x13,x14,x15,x16,x18,x19,x20,rfl⟩:=h
 show To _ _ _ _ _ (W42 k #[.pointer (some ⟨k.wg,0,none⟩),.pointer (some ⟨k.bN,0,none⟩),.pointer (some ⟨k.bK,0,none⟩),.pointer (some ⟨k.bR,0,none⟩),x4,x5,x6,.chan (some k.cN),x8,x9,x10,x11,x12,x13,x14,x15,x16,.chan (some k.cR),x18,x19,x20,.agg #[.int .i64 i,.int .i64 a,e]] [.inRegion opsS [],.inBlock 1,.inLoop lp,.inBlock 0])
 simp only[W42,lp,body42,Tryz.f42,Option.getD_some]
 repeat (first
  | refine To.ctl rfl (fun _ _=>stepG_seq) ?_
  | refine To.ctl rfl (fun _ _=>stepG_skip) ?_
  | refine To.ctl rfl (fun _ _=>stepG_block) ?_
  | refine To.ctl rfl (fun _ _=>stepG_loop) ?_
  | refine To.ctl rfl (fun _ _=>stepG_inLoop) ?_
  | refine To.ctl rfl (fun _ _=>stepG_inBlock) ?_
  | refine To.ctl rfl (fun _ _=>stepG_region_end) ?_
  | (refine To.ctl rfl (fun _ _=>stepG_region) ?_;simp only[List.size_toArray,List.length_cons,List.length_nil,Nat.reduceAdd,Nat.zero_add,List.range,List.range.loop])
  | (refine To.ctl rfl (fun _ _=>stepG_cond (t:=true) rfl) ?_;simp only[if_true,if_false,Bool.false_eq_true,↓reduceIte])
  | (refine To.ctl rfl (fun _ _=>stepG_cond (t:=false) rfl) ?_;simp only[if_true,if_false,Bool.false_eq_true,↓reduceIte])
  | (refine To.ctl rfl (fun _ _=>stepG_exit rfl) ?_)
  | (refine To.value _ rfl rfl (by k_ne) (fun _ _=>by go_simp<;>rfl) (fun _ _=>by simp[go_sem]) ?_;walk_nrm))
 exact To.nil ⟨_,_,_,_,_,_,_,_,_,_,_,_,_,_,_,_,_,rfl⟩
theorem quitsTail (T:Array Value)(todo:List Item):QuitsD Tryz.prog 2 0 (G { (baseD 42).at ⟨T,[]⟩ todo with mode:=.returning } [bot]):=by
 refine QuitsD.ctl (g':=G bot []) rfl (fun w=>?_) ?_
 ·simp[G,stepG,unwind,doReturn,results,Frame.at,baseD,bot,Tryz.func42,Tryz.f42,seen,GStep.after,goexitEntry]
 refine QuitsD.ctl (g':={ G bot [] with status:=.finished }) rfl (fun w=>?_) ⟨rfl,rfl⟩
 simp[G,stepG,unwind,bot,goexitEntry,Frame.catches]
 rfl
def DoneG (k:Kt)(g:Goroutine):Prop:=∃(c:Frame) (cs:List Frame) (q:Nat),c.mode=.returning∧QuitsD Tryz.prog q 0 (G c cs)∧g=G ((baseD lk.done).at ⟨#[.pointer (some ⟨k.wg,0,none⟩),undef,undef,undef],[]⟩ [.code (body_done lk)]) (c :: cs)
set_option maxRecDepth 100000 in
set_option maxHeartbeats 4000000 in
theorem w_closed {g:Goroutine}(h:RecvG k g):To Tryz.prog false (Bx k) (EvB k) (DoneG k) (g.finishComm Tryz.prog #[rcase k.cN (.int .i64 0)] (.recv true) 0 (.int .i64 0) false):=by
 obtain⟨x4,x5,x6,x8,x9,x10,x11,x12,x13,x14,x15,x16,x17,x18,x19,x20,x21,rfl⟩:=h
 show To _ _ _ _ _ (W42 k #[.pointer (some ⟨k.wg,0,none⟩),.pointer (some ⟨k.bN,0,none⟩),.pointer (some ⟨k.bK,0,none⟩),.pointer (some ⟨k.bR,0,none⟩),x4,x5,x6,.chan (some k.cN),.tuple #[.int .i64 0,.bool false],x9,x10,x11,x12,x13,x14,x15,x16,x17,x18,x19,x20,x21] [.inRegion opsR [1],.code cR1,.inLoop lp,.inBlock 0])
 simp only[W42,opsR,cR1,lp,body42,Tryz.f42,Option.getD_some]
 repeat (first
  | refine To.ctl rfl (fun _ _=>stepG_seq) ?_
  | refine To.ctl rfl (fun _ _=>stepG_skip) ?_
  | refine To.ctl rfl (fun _ _=>stepG_block) ?_
  | refine To.ctl rfl (fun _ _=>stepG_loop) ?_
  | refine To.ctl rfl (fun _ _=>stepG_inLoop) ?_
  | refine To.ctl rfl (fun _ _=>stepG_inBlock) ?_
  | refine To.ctl rfl (fun _ _=>stepG_region_end) ?_
  | (refine To.ctl rfl (fun _ _=>stepG_region) ?_;simp only[List.size_toArray,List.length_cons,List.length_nil,Nat.reduceAdd,Nat.zero_add,List.range,List.range.loop])
  | (refine To.ctl rfl (fun _ _=>stepG_cond (t:=true) rfl) ?_;simp only[if_true,if_false,Bool.false_eq_true,↓reduceIte])
  | (refine To.ctl rfl (fun _ _=>stepG_cond (t:=false) rfl) ?_;simp only[if_true,if_false,Bool.false_eq_true,↓reduceIte])
  | (refine To.ctl rfl (fun _ _=>stepG_exit rfl) ?_)
  | (refine To.value _ rfl rfl (by k_ne) (fun _ _=>by go_simp<;>rfl) (fun _ _=>by simp[go_sem]) ?_;walk_nrm))
 refine To.ctl rfl (fun _ _=>stepG_end) ?_
 refine To.ctl rfl (fun _ _=>stepG_unwind_enter rfl Tryz.func43 (nm_done lk) rfl) ?_
 exact To.nil ⟨_,_,2,rfl,quitsTail _ _,rfl⟩
end
end Go.Proofs.YtjeicikflkjacaaGreatDoor.Ms
