/- The caller in share: its own steps while it starts its workers. -/
import Derived.Test.YtjeicikflkjacaaGreatDoorM7
import Derived.Test.YtjeicikflkjacaaGreatDoorMsB
import Derived.Test.YtjeicikflkjacaaGreatDoorMsD
set_option linter.unusedSimpArgs false
namespace Go.Proofs.YtjeicikflkjacaaGreatDoor.Ms
open Go Go.Conc Go.Conc.Lib Go.RowKit Go.ConcN Go.ConcR.Gen Go.ConcN.Gen
open Go.ConcR (KK wgBlock WgAt stA smA rd wr mk Payload Aside2 DC0)
structure Bc (k:Kt)(w:World):Prop where
 bx:Bx k w
 live:WgLive lk.tWg k.wg w
def EvC (k:Kt)(e:Event):Prop:=EvB k e∨e=⟨.mark (.read ⟨k.wg,1,none⟩),false,true⟩∨e=⟨.mark (.write ⟨k.wg,1,none⟩),false,true⟩
noncomputable def body31:Code:=Tryz.f31.body.getD .skip
noncomputable def bl31:Code:=match body31 with|.seq _ (.seq _ (.seq _ (.seq (.seq _ c) _)))=>c|_=>.skip
noncomputable def lp31:Code:=match bl31 with|.block _ (.loop c)=>c|_=>.skip
noncomputable def tl31:Code:=match body31 with|.seq _ (.seq _ (.seq _ (.seq _ c)))=>c|_=>.skip
def S31 (cs:List Frame)(t:Array Value)(todo:List Item):Goroutine:=G ((base 31).at ⟨t,[]⟩ todo) cs
theorem loud31:(Tryz.prog.funcs[(base 31).fn]?).any (·.norace)=false:=by kernel_rfl
section
variable (k:Kt) (n m:Int) (cs:List Frame)
def HeadG (j:Int)(g:Goroutine):Prop:=∃x1 x2 x3 x4 x6 x10 x11 x12 x13 x14 x17 x18 x19 x20 x21 x22 x23 x24 x25 x26 x27,g=S31 cs #[.int .i64 n,x1,x2,x3,x4,.pointer (some ⟨k.bK,0,none⟩),x6,.pointer (some ⟨k.bN,0,none⟩),.pointer (some ⟨k.bR,0,none⟩),.pointer (some ⟨k.wg,0,none⟩),x10,x11,x12,x13,x14,.int .i64 m,.int .i64 j,x17,x18,x19,x20,x21,x22,x23,x24,x25,x26,x27] [.code lp31,.inLoop lp31,.inBlock 0,.code tl31]
noncomputable def opsGo:Array Oper:=match lp31 with|.seq _ (.seq _ (.seq (.block _ (.seq _ (.region _ o _))) _))=>o|_=>#[]
noncomputable def cInc:Code:=match lp31 with|.seq _ (.seq _ (.seq _ c))=>c|_=>.skip
def GoG (j:Int)(g:Goroutine):Prop:=∃x1 x2 x3 x4 x6 x10 x11 x12 x13 x14 x17 x18 x20 x21 x22 x23 x24 x25 x26 x27,g=S31 cs #[.int .i64 n,x1,x2,x3,x4,.pointer (some ⟨k.bK,0,none⟩),x6,.pointer (some ⟨k.bN,0,none⟩),.pointer (some ⟨k.bR,0,none⟩),.pointer (some ⟨k.wg,0,none⟩),x10,x11,x12,x13,x14,.int .i64 m,.int .i64 j,x17,x18,.func (.func 42) #[] #[.pointer (some ⟨k.wg,0,none⟩),.pointer (some ⟨k.bN,0,none⟩),.pointer (some ⟨k.bK,0,none⟩),.pointer (some ⟨k.bR,0,none⟩)],x20,x21,x22,x23,x24,x25,x26,x27] [.inRegion opsGo [1],.inBlock 1,.code cInc,.inLoop lp31,.inBlock 0,.code tl31]
noncomputable def opsCo:Array Oper:=match tl31 with|.seq (.region _ o _) _=>o|_=>#[]
noncomputable def cCo:Code:=match tl31 with|.seq _ c=>c|_=>.skip
def CoG (g:Goroutine):Prop:=∃j x1 x2 x3 x4 x6 x10 x11 x12 x13 x14 x17 x18 x19 x20 x24 x25 x26 x27,g=S31 cs #[.int .i64 n,x1,x2,x3,x4,.pointer (some ⟨k.bK,0,none⟩),x6,.pointer (some ⟨k.bN,0,none⟩),.pointer (some ⟨k.bR,0,none⟩),.pointer (some ⟨k.wg,0,none⟩),x10,x11,x12,x13,x14,.int .i64 m,.int .i64 j,x17,x18,x19,x20,.int .i64 n,.chan (some k.cN),.chan (some k.cR),x24,x25,x26,x27] [.inRegion opsCo [3,4],.code cCo]
variable {k n m cs}
set_option maxRecDepth 100000 in
set_option maxHeartbeats 8000000 in
theorem head_more {j:Int}(hj:j<m){g:Goroutine}(h:HeadG k n m cs j g):To Tryz.prog true (Bc k) (EvC k) (AddK Tryz.prog lk k.wg (Bc k) (EvC k) (GoG k n m cs j)) g:=by
 obtain⟨x1,x2,x3,x4,x6,x10,x11,x12,x13,x14,x17,x18,x19,x20,x21,x22,x23,x24,x25,x26,x27,rfl⟩:=h
 have hd:decide (j<m)=true:=decide_eq_true hj
 simp only[S31,lp31,bl31,tl31,body31,Tryz.f31,Option.getD_some]
 repeat (first
  | refine To.ctl rfl (fun _ _=>stepG_seq) ?_
  | refine To.ctl rfl (fun _ _=>stepG_skip) ?_
  | refine To.ctl rfl (fun _ _=>stepG_block) ?_
  | refine To.ctl rfl (fun _ _=>stepG_loop) ?_
  | refine To.ctl rfl (fun _ _=>stepG_inLoop) ?_
  | refine To.ctl rfl (fun _ _=>stepG_inBlock) ?_
  | refine To.ctl rfl (fun _ _=>stepG_region_end) ?_
  | refine To.ctl rfl (fun _ _=>stepG_ret') ?_
  | (refine To.ctl rfl (fun _ _=>stepG_region) ?_;simp only[List.size_toArray,List.length_cons,List.length_nil,Nat.reduceAdd,Nat.zero_add,List.range,List.range.loop])
  | (refine To.ctl rfl (fun _ _=>stepG_cond (t:=true) rfl) ?_;simp only[if_true,if_false,Bool.false_eq_true,↓reduceIte])
  | (refine To.ctl rfl (fun _ _=>stepG_cond (t:=false) rfl) ?_;simp only[if_true,if_false,Bool.false_eq_true,↓reduceIte])
  | (refine To.ctl rfl (fun _ _=>stepG_exit rfl) ?_)
  | (refine To.value _ rfl rfl (by k_ne) (fun _ _=>by go_simp<;>rfl) (fun _ _=>by simp[go_sem]) ?_;walk_nrm))
 refine To.call rfl rfl (by k_ne) rfl wgLib.f_add (nm_add lk) rfl ?_
 walk_nrmf addFn
 have hA:=fun (K:Goroutine→Prop)=>@add_walk Tryz.prog lk k.wg (Bc k) (EvC k) K
 simp only[body_add,addFn,Option.getD_some] at hA
 refine hA _ wgLib (fun w hw=>hw.live) (.inr (.inl rfl)) ?_
 walk_nrm
 repeat (first
  | refine To.ctl rfl (fun _ _=>stepG_seq) ?_
  | refine To.ctl rfl (fun _ _=>stepG_skip) ?_
  | refine To.ctl rfl (fun _ _=>stepG_block) ?_
  | refine To.ctl rfl (fun _ _=>stepG_loop) ?_
  | refine To.ctl rfl (fun _ _=>stepG_inLoop) ?_
  | refine To.ctl rfl (fun _ _=>stepG_inBlock) ?_
  | refine To.ctl rfl (fun _ _=>stepG_region_end) ?_
  | refine To.ctl rfl (fun _ _=>stepG_ret') ?_
  | (refine To.ctl rfl (fun _ _=>stepG_region) ?_;simp only[List.size_toArray,List.length_cons,List.length_nil,Nat.reduceAdd,Nat.zero_add,List.range,List.range.loop])
  | (refine To.ctl rfl (fun _ _=>stepG_cond (t:=true) rfl) ?_;simp only[if_true,if_false,Bool.false_eq_true,↓reduceIte])
  | (refine To.ctl rfl (fun _ _=>stepG_cond (t:=false) rfl) ?_;simp only[if_true,if_false,Bool.false_eq_true,↓reduceIte])
  | (refine To.ctl rfl (fun _ _=>stepG_exit rfl) ?_)
  | (refine To.value _ rfl rfl (by k_ne) (fun _ _=>by go_simp<;>rfl) (fun _ _=>by simp[go_sem]) ?_;walk_nrm))
 exact To.nil ⟨_,_,_,_,_,_,_,_,_,_,_,_,_,_,_,_,_,_,_,_,rfl⟩
set_option maxRecDepth 100000 in
theorem go_spawn {j:Int}{g:Goroutine}(h:GoG k n m cs j g):g.status=.running∧∃g1,(∀w,stepG Tryz.prog true g w=.spawn g1 (born Tryz.prog (call42 k)) w #[])∧To Tryz.prog true (Bc k) (EvC k) (HeadG k n m cs (IntKind.i64.wrap (j+1))) g1:=by
 obtain⟨x1,x2,x3,x4,x6,x10,x11,x12,x13,x14,x17,x18,x20,x21,x22,x23,x24,x25,x26,x27,rfl⟩:=h
 refine⟨rfl,S31 cs #[.int .i64 n,x1,x2,x3,x4,.pointer (some ⟨k.bK,0,none⟩),x6,.pointer (some ⟨k.bN,0,none⟩),.pointer (some ⟨k.bR,0,none⟩),.pointer (some ⟨k.wg,0,none⟩),x10,x11,x12,x13,x14,.int .i64 m,.int .i64 j,x17,x18,.func (.func 42) #[] #[.pointer (some ⟨k.wg,0,none⟩),.pointer (some ⟨k.bN,0,none⟩),.pointer (some ⟨k.bK,0,none⟩),.pointer (some ⟨k.bR,0,none⟩)],x20,x21,x22,x23,x24,x25,x26,x27] [.inRegion opsGo [],.inBlock 1,.code cInc,.inLoop lp31,.inBlock 0,.code tl31],fun w=>?_,?_⟩
 ·have hl : (execOp (Act.eval ⟨#[.int .i64 n, x1, x2, x3, x4, .pointer (some ⟨k.bK, 0, none⟩), x6, .pointer (some ⟨k.bN, 0, none⟩), .pointer (some ⟨k.bR, 0, none⟩), .pointer (some ⟨k.wg, 0, none⟩), x10, x11, x12, x13, x14, .int .i64 m, .int .i64 j, x17, x18, .func (.func 42) #[] #[.pointer (some ⟨k.wg, 0, none⟩), .pointer (some ⟨k.bN, 0, none⟩), .pointer (some ⟨k.bK, 0, none⟩), .pointer (some ⟨k.bR, 0, none⟩)], x20, x21, x22, x23, x24, x25, x26, x27], []⟩) { dst := none, op := .go { callee := .value (.tmp 19), args := #[], argTypes := #[] }, type := 0, pos := "side.go:66", after := #[{ on := 0, ground := .data }], guard := none }).events Tryz.prog w #[] = #[] := by
   simp[execOp,resolve,Deferred.ofValue,Act.eval]
  have hr : (execOp (Act.eval ⟨#[.int .i64 n, x1, x2, x3, x4, .pointer (some ⟨k.bK, 0, none⟩), x6, .pointer (some ⟨k.bN, 0, none⟩), .pointer (some ⟨k.bR, 0, none⟩), .pointer (some ⟨k.wg, 0, none⟩), x10, x11, x12, x13, x14, .int .i64 m, .int .i64 j, x17, x18, .func (.func 42) #[] #[.pointer (some ⟨k.wg, 0, none⟩), .pointer (some ⟨k.bN, 0, none⟩), .pointer (some ⟨k.bK, 0, none⟩), .pointer (some ⟨k.bR, 0, none⟩)], x20, x21, x22, x23, x24, x25, x26, x27], []⟩) { dst := none, op := .go { callee := .value (.tmp 19), args := #[], argTypes := #[] }, type := 0, pos := "side.go:66", after := #[{ on := 0, ground := .data }], guard := none }).run Tryz.prog w = .ok (.spawn (call42 k)) w := by
   simp[execOp,resolve,Deferred.ofValue,Act.eval,call42]
  have:=stepG_spawn (P:=Tryz.prog) (main:=true) (b:=base 31) (a:=⟨#[.int .i64 n,x1,x2,x3,x4,.pointer (some ⟨k.bK,0,none⟩),x6,.pointer (some ⟨k.bN,0,none⟩),.pointer (some ⟨k.bR,0,none⟩),.pointer (some ⟨k.wg,0,none⟩),x10,x11,x12,x13,x14,.int .i64 m,.int .i64 j,x17,x18,.func (.func 42) #[] #[.pointer (some ⟨k.wg,0,none⟩),.pointer (some ⟨k.bN,0,none⟩),.pointer (some ⟨k.bK,0,none⟩),.pointer (some ⟨k.bR,0,none⟩)],x20,x21,x22,x23,x24,x25,x26,x27],[]⟩) (k:=[.inBlock 1,.code cInc,.inLoop lp31,.inBlock 0,.code tl31]) (cs:=cs) (w:=w) (w':=w) (ops:=opsGo) (i:=1) (rest:=[]) (d:=call42 k) rfl rfl (by k_ne) hr rfl
  rw[S31,this]
  have hs:=congrArg (seen Tryz.prog (base 31).fn) hl
  rw[seen_none] at hs
  exact congrArg (fun x=>GStep.spawn _ _ w x) hs
 ·simp only[S31,opsGo,cInc,lp31,bl31,tl31,body31,Tryz.f31,Option.getD_some]
  repeat (first
   | refine To.ctl rfl (fun _ _=>stepG_inBlock) ?_
   | refine To.ctl rfl (fun _ _=>stepG_inLoop) ?_
   | refine To.ctl rfl (fun _ _=>stepG_region_end) ?_
   | (refine To.ctl rfl (fun _ _=>stepG_region) ?_;simp only[List.size_toArray,List.length_cons,List.length_nil,Nat.reduceAdd,Nat.zero_add,List.range,List.range.loop])
   | (refine To.value _ rfl rfl (by k_ne) (fun _ _=>by go_simp<;>rfl) (fun _ _=>by simp[go_sem]) ?_;walk_nrm))
  exact To.nil ⟨_,_,_,_,_,_,_,_,_,_,_,_,_,_,_,_,_,_,_,_,_,rfl⟩
set_option maxRecDepth 100000 in
set_option maxHeartbeats 8000000 in
theorem head_all {j:Int}(hj:¬j<m){g:Goroutine}(h:HeadG k n m cs j g):To Tryz.prog true (Bc k) (EvC k) (CoG k n m cs) g:=by
 obtain⟨x1,x2,x3,x4,x6,x10,x11,x12,x13,x14,x17,x18,x19,x20,x21,x22,x23,x24,x25,x26,x27,rfl⟩:=h
 have hd:decide (j<m)=false:=decide_eq_false hj
 simp only[S31,lp31,bl31,tl31,body31,Tryz.f31,Option.getD_some]
 repeat (first
  | refine To.ctl rfl (fun _ _=>stepG_seq) ?_
  | refine To.ctl rfl (fun _ _=>stepG_skip) ?_
  | refine To.ctl rfl (fun _ _=>stepG_block) ?_
  | refine To.ctl rfl (fun _ _=>stepG_loop) ?_
  | refine To.ctl rfl (fun _ _=>stepG_inLoop) ?_
  | refine To.ctl rfl (fun _ _=>stepG_inBlock) ?_
  | refine To.ctl rfl (fun _ _=>stepG_region_end) ?_
  | refine To.ctl rfl (fun _ _=>stepG_ret') ?_
  | (refine To.ctl rfl (fun _ _=>stepG_region) ?_;simp only[List.size_toArray,List.length_cons,List.length_nil,Nat.reduceAdd,Nat.zero_add,List.range,List.range.loop])
  | (refine To.ctl rfl (fun _ _=>stepG_cond (t:=true) rfl) ?_;simp only[if_true,if_false,Bool.false_eq_true,↓reduceIte])
  | (refine To.ctl rfl (fun _ _=>stepG_cond (t:=false) rfl) ?_;simp only[if_true,if_false,Bool.false_eq_true,↓reduceIte])
  | (refine To.ctl rfl (fun _ _=>stepG_exit rfl) ?_)
  | (refine To.value _ rfl rfl (by k_ne) (fun _ _=>by go_simp<;>rfl) (fun _ _=>by simp[go_sem]) ?_;walk_nrm))
 refine To.load (.chan (some k.cN)) rfl rfl (by k_ne) (fun w hB=>by have h1:=hB.bx.n;go_simp) (fun w hB=>by have h1:=hB.bx.n;simp[go_sem,h1]) loud31 (.inl ⟨k.bN,.inl rfl,rfl⟩) ?_
 walk_nrm
 refine To.load (.chan (some k.cR)) rfl rfl (by k_ne) (fun w hB=>by have h1:=hB.bx.r;go_simp) (fun w hB=>by have h1:=hB.bx.r;simp[go_sem,h1]) loud31 (.inl ⟨k.bR,.inr (.inr rfl),rfl⟩) ?_
 walk_nrm
 exact To.nil ⟨j,_,_,_,_,_,_,_,_,_,_,_,_,_,_,_,_,_,_,rfl⟩
end
end Go.Proofs.YtjeicikflkjacaaGreatDoor.Ms

/- The caller in collect: its own steps. -/
set_option linter.unusedSimpArgs false
namespace Go.Proofs.YtjeicikflkjacaaGreatDoor.Ms
open Go Go.Conc Go.Conc.Lib Go.RowKit Go.ConcN Go.ConcR.Gen Go.ConcN.Gen
open Go.ConcR (KK wgBlock WgAt stA smA rd wr mk Payload Aside2 DC0)
noncomputable def body44:Code:=Tryz.f44.body.getD .skip
noncomputable def lp44:Code:=match body44 with|.seq _ (.seq _ (.seq _ (.seq (.seq _ (.block _ (.loop c))) _)))=>c|_=>.skip
noncomputable def tl44:Code:=match body44 with|.seq _ (.seq _ (.seq _ (.seq _ c)))=>c|_=>.skip
noncomputable def bd44:Code:=match lp44 with|.seq _ (.block _ c)=>c|_=>.skip
noncomputable def opsSel:Array Oper:=match bd44 with|.seq _ (.seq (.region _ o _) _)=>o|_=>#[]
noncomputable def cSel:Code:=match bd44 with|.seq _ (.seq _ c)=>c|_=>.skip
noncomputable def cGot:Code:=match cSel with|.block _ (.cond _ _ (.cond _ c _))=>c|_=>.skip
noncomputable def ops12:Array Oper:=match cGot with|.seq (.region _ o _) _=>o|_=>#[]
noncomputable def c13:Code:=match cGot with|.seq _ c=>c|_=>.skip
noncomputable def ops13:Array Oper:=match c13 with|.seq (.region _ o _) _=>o|_=>#[]
noncomputable def c14:Code:=match c13 with|.seq _ c=>c|_=>.skip
noncomputable def opsMk:Array Oper:=match body44 with|.seq _ (.seq (.region _ o _) _)=>o|_=>#[]
noncomputable def cMk:Code:=match body44 with|.seq _ (.seq _ c)=>c|_=>.skip
def S44 (cs:List Frame)(t:Array Value)(todo:List Item):Goroutine:=G ((base 44).at ⟨t,[]⟩ todo) cs
theorem loud44:(Tryz.prog.funcs[(base 44).fn]?).any (·.norace)=false:=by kernel_rfl
def nch (k:Kt)(N nx:Nat):Value:=if N≤nx∧0<N then .chan none else .chan (some k.cN)
def zMd:Value:=.agg #[.int .i64 0,.int .i64 0,.nilIface]
section
variable (k:Kt) (N:Nat) (cs:List Frame)
def MkG (g:Goroutine):Prop:=∃x3 x4 x5 x6 x7 x8 x9 x10 x12 x13 x14 x15 x16 x17 x18 x19 x20 x21 x22 x23 x24 x25 x26 x27 x28 x29 x30 x31 x32 x33 x34 x35 x36,g=S44 cs #[.int .i64 (N:Nat),.chan (some k.cN),.chan (some k.cR),x3,x4,x5,x6,x7,x8,x9,x10,.int .i64 (N:Nat),x12,x13,x14,x15,x16,x17,x18,x19,x20,x21,x22,x23,x24,x25,x26,x27,x28,x29,x30,x31,x32,x33,x34,x35,x36] [.inRegion opsMk [1,2],.code cMk]
variable (bL nx th:Nat)
def CHead (g:Goroutine):Prop:=∃x3 x4 x5 x6 x10 x11 x12 x13 x14 x15 x16 x17 x18 x19 x20 x21 x22 x23 x24 x25 x26 x27 x28 x29 x30 x31 x32 x33 x34 x35 x36,g=S44 cs #[.int .i64 (N:Nat),nch k N nx,.chan (some k.cR),x3,x4,x5,x6,.slice (some ⟨bL,0,none⟩) N N,.int .i64 (nx:Nat),.int .i64 (th:Nat),x10,x11,x12,x13,x14,x15,x16,x17,x18,x19,x20,x21,x22,x23,x24,x25,x26,x27,x28,x29,x30,x31,x32,x33,x34,x35,x36] [.code lp44,.inLoop lp44,.inBlock 0,.code tl44]
def SelG (g:Goroutine):Prop:=∃x3 x4 x5 x6 x10 x11 x12 x13 x14 x15 x19 x20 x21 x22 x23 x24 x25 x26 x27 x28 x29 x30 x31 x32 x33 x34 x35 x36,g=S44 cs #[.int .i64 (N:Nat),nch k N nx,.chan (some k.cR),x3,x4,x5,x6,.slice (some ⟨bL,0,none⟩) N N,.int .i64 (nx:Nat),.int .i64 (th:Nat),x10,x11,x12,x13,x14,x15,nch k N nx,.int .i64 (nx:Nat),.chan (some k.cR),x19,x20,x21,x22,x23,x24,x25,x26,x27,x28,x29,x30,x31,x32,x33,x34,x35,x36] [.inRegion opsSel [0,1,2,3],.code cSel,.inBlock 1,.inLoop lp44,.inBlock 0,.code tl44]
variable (i:Nat) (a:Int) (e:Value)
def AlG (g:Goroutine):Prop:=∃x3 x4 x5 x6 x10 x11 x12 x13 x14 x15 x16 x17 x18 x19 x20 x21 x22 x23 x24 x25 x26 x27 x29 x30 x31 x32 x33 x34 x35 x36,g=S44 cs #[.int .i64 (N:Nat),nch k N nx,.chan (some k.cR),x3,x4,x5,x6,.slice (some ⟨bL,0,none⟩) N N,.int .i64 (nx:Nat),.int .i64 (th:Nat),x10,x11,x12,x13,x14,x15,x16,x17,x18,x19,x20,x21,x22,x23,x24,x25,x26,x27,.agg #[.int .i64 (i:Nat),.int .i64 a,e],x29,x30,x31,x32,x33,x34,x35,x36] [.inRegion ops12 [1,2],.code c13,.inBlock 2,.inBlock 1,.inLoop lp44,.inBlock 0,.code tl44]
def St1G (bT:Nat)(g:Goroutine):Prop:=∃x3 x4 x5 x6 x11 x12 x13 x14 x15 x16 x17 x18 x19 x20 x21 x22 x23 x24 x25 x26 x27 x29 x30 x31 x32 x33 x34 x35 x36,g=S44 cs #[.int .i64 (N:Nat),nch k N nx,.chan (some k.cR),x3,x4,x5,x6,.slice (some ⟨bL,0,none⟩) N N,.int .i64 (nx:Nat),.int .i64 (th:Nat),.pointer (some ⟨bT,0,none⟩),x11,x12,x13,x14,x15,x16,x17,x18,x19,x20,x21,x22,x23,x24,x25,x26,x27,.agg #[.int .i64 (i:Nat),.int .i64 a,e],x29,x30,x31,x32,x33,x34,x35,x36] [.inRegion ops12 [2],.code c13,.inBlock 2,.inBlock 1,.inLoop lp44,.inBlock 0,.code tl44]
def St2G (g:Goroutine):Prop:=∃x3 x4 x5 x6 x10 x11 x12 x13 x14 x15 x16 x17 x18 x19 x20 x21 x22 x23 x24 x25 x26 x27 x28 x29 x30 x31 x34 x35 x36,g=S44 cs #[.int .i64 (N:Nat),nch k N nx,.chan (some k.cR),x3,x4,x5,x6,.slice (some ⟨bL,0,none⟩) N N,.int .i64 (nx:Nat),.int .i64 (th:Nat),x10,x11,x12,x13,x14,x15,x16,x17,x18,x19,x20,x21,x22,x23,x24,x25,x26,x27,x28,x29,x30,x31,.agg #[.int .i64 (i:Nat),.int .i64 a,e],.pointer (some ⟨bL,i*3,none⟩),x34,x35,x36] [.inRegion ops13 [5],.code c14,.inBlock 2,.inBlock 1,.inLoop lp44,.inBlock 0,.code tl44]
end
section
variable {k:Kt} {N:Nat} {cs:List Frame} {bL nx th i:Nat} {a:Int} {e:Value}
set_option maxRecDepth 100000 in
set_option maxHeartbeats 8000000 in
theorem chead_more (h1:th<N){g:Goroutine}(h:CHead k N cs bL nx th g):To Tryz.prog true (Bc k) (EvC k) (SelG k N cs bL nx th) g:=by
 obtain⟨x3,x4,x5,x6,x10,x11,x12,x13,x14,x15,x16,x17,x18,x19,x20,x21,x22,x23,x24,x25,x26,x27,x28,x29,x30,x31,x32,x33,x34,x35,x36,rfl⟩:=h
 have d1:decide (th<N)=true:=decide_eq_true h1
 have d2:decide ((th:Int)<(N:Int))=true:=decide_eq_true (by omega)
 simp only[S44,lp44,tl44,body44,Tryz.f44,Option.getD_some]
 repeat (first
  | refine To.ctl rfl (fun _ _=>stepG_seq) ?_
  | refine To.ctl rfl (fun _ _=>stepG_skip) ?_
  | refine To.ctl rfl (fun _ _=>stepG_block) ?_
  | refine To.ctl rfl (fun _ _=>stepG_loop) ?_
  | refine To.ctl rfl (fun _ _=>stepG_inLoop) ?_
  | refine To.ctl rfl (fun _ _=>stepG_inBlock) ?_
  | refine To.ctl rfl (fun _ _=>stepG_region_end) ?_
  | refine To.ctl rfl (fun _ _=>stepG_ret') ?_
  | (refine To.ctl rfl (fun _ _=>stepG_region) ?_;simp only[List.size_toArray,List.length_cons,List.length_nil,Nat.reduceAdd,Nat.zero_add,List.range,List.range.loop])
  | (refine To.ctl rfl (fun _ _=>stepG_cond (t:=true) rfl) ?_;simp only[if_true,if_false,Bool.false_eq_true,↓reduceIte])
  | (refine To.ctl rfl (fun _ _=>stepG_cond (t:=false) rfl) ?_;simp only[if_true,if_false,Bool.false_eq_true,↓reduceIte])
  | (refine To.ctl rfl (fun _ _=>stepG_exit rfl) ?_)
  | (refine To.value _ rfl rfl (by k_ne) (fun _ _=>by go_simp<;>rfl) (fun _ _=>by simp[go_sem]) ?_;walk_nrm))
 exact To.nil ⟨_,_,_,_,_,_,_,_,_,_,_,_,_,_,_,_,_,_,_,_,_,_,_,_,_,_,_,_,rfl⟩
def selC (k:Kt)(N nx:Nat):Array CommCase:=#[{ chan:=nch k N nx,send:=some (.int .i64 (nx:Nat)),zero:=.int .i64 0 },rcase k.cR zMd]
set_option maxRecDepth 100000 in
theorem sel_comm {g:Goroutine}(h:SelG k N cs bL nx th g)(w:World):g.status=.running∧stepG Tryz.prog true g w=.comm g (selC k N nx) true .select w #[]:=by
 obtain⟨x3,x4,x5,x6,x10,x11,x12,x13,x14,x15,x19,x20,x21,x22,x23,x24,x25,x26,x27,x28,x29,x30,x31,x32,x33,x34,x35,x36,rfl⟩:=h
 refine⟨rfl,?_⟩
 have hr : (execOp (Act.eval ⟨#[.int .i64 (N : Nat), nch k N nx, .chan (some k.cR), x3, x4, x5, x6, .slice (some ⟨bL, 0, none⟩) N N, .int .i64 (nx : Nat), .int .i64 (th : Nat), x10, x11, x12, x13, x14, x15, nch k N nx, .int .i64 (nx : Nat), .chan (some k.cR), x19, x20, x21, x22, x23, x24, x25, x26, x27, x28, x29, x30, x31, x32, x33, x34, x35, x36], []⟩) { dst := some 19, op := .select #[{ chan := .tmp 16, send := some (.tmp 17), elem := 3 }, { chan := .tmp 18, send := none, elem := 65 }] true, type := 0, pos := "side.go:85", after := #[], guard := none }).run Tryz.prog w = .ok (.comm (selC k N nx) true .select) w := by
  simp[execOp,Act.eval,Tryz.zeroValue3,Tryz.zeroValue65,selC,zMd,rcase]
 have hl : (execOp (Act.eval ⟨#[.int .i64 (N : Nat), nch k N nx, .chan (some k.cR), x3, x4, x5, x6, .slice (some ⟨bL, 0, none⟩) N N, .int .i64 (nx : Nat), .int .i64 (th : Nat), x10, x11, x12, x13, x14, x15, nch k N nx, .int .i64 (nx : Nat), .chan (some k.cR), x19, x20, x21, x22, x23, x24, x25, x26, x27, x28, x29, x30, x31, x32, x33, x34, x35, x36], []⟩) { dst := some 19, op := .select #[{ chan := .tmp 16, send := some (.tmp 17), elem := 3 }, { chan := .tmp 18, send := none, elem := 65 }] true, type := 0, pos := "side.go:85", after := #[], guard := none }).events Tryz.prog w #[] = #[] := by
  simp[execOp,Act.eval,Tryz.zeroValue3,Tryz.zeroValue65]
 have:=stepG_comm (P:=Tryz.prog) (main:=true) (b:=base 44) (a:=⟨#[.int .i64 (N:Nat),nch k N nx,.chan (some k.cR),x3,x4,x5,x6,.slice (some ⟨bL,0,none⟩) N N,.int .i64 (nx:Nat),.int .i64 (th:Nat),x10,x11,x12,x13,x14,x15,nch k N nx,.int .i64 (nx:Nat),.chan (some k.cR),x19,x20,x21,x22,x23,x24,x25,x26,x27,x28,x29,x30,x31,x32,x33,x34,x35,x36],[]⟩) (k:=[.code cSel,.inBlock 1,.inLoop lp44,.inBlock 0,.code tl44]) (cs:=cs) (w:=w) (w':=w) (ops:=opsSel) (i:=0) (rest:=[1,2,3]) (cases:=selC k N nx) (blocking:=true) (shape:=.select) rfl rfl (by k_ne) hr
 rw[S44,this]
 have hs:=congrArg (seen Tryz.prog (base 44).fn) hl
 rw[seen_none] at hs
 exact congrArg (fun x=>GStep.comm _ _ _ _ w x) hs
theorem res0:commResult (selC k N nx) .select 0 undef false=.tuple #[.int .i64 0,.bool false,zMd]:=by
 simp[commResult,selC,rcase,goInt]
theorem res1 (v:Value):commResult (selC k N nx) .select 1 v true=.tuple #[.int .i64 1,.bool true,v]:=by
 simp[commResult,selC,rcase,goInt]
set_option maxRecDepth 100000 in
set_option maxHeartbeats 8000000 in
theorem sel_sent (h0:nx<N)(hN:N<4294967296){g:Goroutine}(h:SelG k N cs bL nx th g):To Tryz.prog true (Bc k) (EvC k) (CHead k N cs bL (nx+1) th) (g.finishComm Tryz.prog (selC k N nx) .select 0 undef false):=by
 obtain⟨x3,x4,x5,x6,x10,x11,x12,x13,x14,x15,x19,x20,x21,x22,x23,x24,x25,x26,x27,x28,x29,x30,x31,x32,x33,x34,x35,x36,rfl⟩:=h
 have hs:(S44 cs #[.int .i64 (N:Nat),nch k N nx,.chan (some k.cR),x3,x4,x5,x6,.slice (some ⟨bL,0,none⟩) N N,.int .i64 (nx:Nat),.int .i64 (th:Nat),x10,x11,x12,x13,x14,x15,nch k N nx,.int .i64 (nx:Nat),.chan (some k.cR),x19,x20,x21,x22,x23,x24,x25,x26,x27,x28,x29,x30,x31,x32,x33,x34,x35,x36] [.inRegion opsSel [0,1,2,3],.code cSel,.inBlock 1,.inLoop lp44,.inBlock 0,.code tl44]).finishComm Tryz.prog (selC k N nx) .select 0 undef false=S44 cs #[.int .i64 (N:Nat),nch k N nx,.chan (some k.cR),x3,x4,x5,x6,.slice (some ⟨bL,0,none⟩) N N,.int .i64 (nx:Nat),.int .i64 (th:Nat),x10,x11,x12,x13,x14,x15,nch k N nx,.int .i64 (nx:Nat),.chan (some k.cR),.tuple #[.int .i64 0,.bool false,zMd],x20,x21,x22,x23,x24,x25,x26,x27,x28,x29,x30,x31,x32,x33,x34,x35,x36] [.inRegion opsSel [1,2,3],.code cSel,.inBlock 1,.inLoop lp44,.inBlock 0,.code tl44]:=by
  unfold Goroutine.finishComm
  rw[res0]
  rfl
 rw[hs]
 have w1:IntKind.i64.wrap ((nx:Int)+1)=((nx+1:Nat):Int):=by rw[IntKind.wrap_i64];omega
 simp only[S44,opsSel,cSel,bd44,lp44,tl44,body44,Tryz.f44,Option.getD_some]
 have hn1:nch k N nx=.chan (some k.cN):=by unfold nch;rw[if_neg (by omega)]
 rw[hn1]
 refine To.value _ rfl rfl (by k_ne) (fun _ _=>by go_simp<;>rfl) (fun _ _=>by simp[go_sem]) ?_;walk_nrm
 refine To.value _ rfl rfl (by k_ne) (fun _ _=>by go_simp<;>rfl) (fun _ _=>by simp[go_sem]) ?_;walk_nrm
 refine To.value _ rfl rfl (by k_ne) (fun _ _=>by go_simp<;>rfl) (fun _ _=>by simp[go_sem]) ?_;walk_nrm
 refine To.ctl rfl (fun _ _=>stepG_region_end) ?_
 refine To.ctl rfl (fun _ _=>stepG_block) ?_
 refine To.ctl rfl (fun _ _=>stepG_cond (t:=true) rfl) ?_;simp only[if_true,if_false,Bool.false_eq_true,↓reduceIte]
 refine To.ctl rfl (fun _ _=>stepG_seq) ?_
 refine To.ctl rfl (fun _ _=>stepG_region) ?_;simp only[List.size_toArray,List.length_cons,List.length_nil,Nat.reduceAdd,Nat.zero_add,List.range,List.range.loop]
 refine To.value _ rfl rfl (by k_ne) (fun _ _=>by go_simp<;>rfl) (fun _ _=>by simp[go_sem]) ?_;walk_nrm
 refine To.value (.int .i64 ((nx+1:Nat):Int)) rfl rfl (by k_ne) (fun _ _=>by go_simp;try rw[w1]) (fun _ _=>by simp[go_sem]) ?_;walk_nrm
 refine To.value _ rfl rfl (by k_ne) (fun _ _=>by go_simp<;>rfl) (fun _ _=>by simp[go_sem]) ?_;walk_nrm
 refine To.ctl rfl (fun _ _=>stepG_region_end) ?_
 refine To.ctl rfl (fun _ _=>stepG_seq) ?_
 refine To.ctl rfl (fun _ _=>stepG_region) ?_;simp only[List.size_toArray,List.length_cons,List.length_nil,Nat.reduceAdd,Nat.zero_add,List.range,List.range.loop]
 refine To.value _ rfl rfl (by k_ne) (fun _ _=>by go_simp<;>rfl) (fun _ _=>by simp[go_sem]) ?_;walk_nrm
 refine To.value _ rfl rfl (by k_ne) (fun _ _=>by go_simp<;>rfl) (fun _ _=>by simp[go_sem]) ?_;walk_nrm
 by_cases he:nx+1=N
 ·have hn2:nch k N (nx+1)=.chan none:=by unfold nch;rw[if_pos (by omega)]
  refine To.value (.bool true) rfl rfl (by k_ne) (fun _ _=>by go_simp;omega) (fun _ _=>by simp[go_sem]) ?_;walk_nrm
  refine To.ctl rfl (fun _ _=>stepG_region_end) ?_
  refine To.ctl rfl (fun _ _=>stepG_cond (t:=true) rfl) ?_;simp only[if_true,if_false,Bool.false_eq_true,↓reduceIte]
  refine To.ctl rfl (fun _ _=>stepG_region) ?_;simp only[List.size_toArray,List.length_cons,List.length_nil,Nat.reduceAdd,Nat.zero_add,List.range,List.range.loop]
  refine To.value _ rfl rfl (by k_ne) (fun _ _=>by go_simp<;>rfl) (fun _ _=>by simp[go_sem]) ?_;walk_nrm
  refine To.ctl rfl (fun _ _=>stepG_region_end) ?_
  refine To.ctl rfl (fun _ _=>stepG_inBlock) ?_
  refine To.ctl rfl (fun _ _=>stepG_inBlock) ?_
  refine To.ctl rfl (fun _ _=>stepG_inLoop) ?_
  exact To.nil ⟨_,_,_,_,_,_,_,_,_,_,_,_,_,_,_,_,_,_,_,_,_,_,_,_,_,_,_,_,_,_,_,by rw[hn2];rfl⟩
 ·have hn2:nch k N (nx+1)=.chan (some k.cN):=by unfold nch;rw[if_neg (by omega)]
  refine To.value (.bool false) rfl rfl (by k_ne) (fun _ _=>by go_simp;omega) (fun _ _=>by simp[go_sem]) ?_;walk_nrm
  refine To.ctl rfl (fun _ _=>stepG_region_end) ?_
  refine To.ctl rfl (fun _ _=>stepG_cond (t:=false) rfl) ?_;simp only[if_true,if_false,Bool.false_eq_true,↓reduceIte]
  refine To.ctl rfl (fun _ _=>stepG_skip) ?_
  refine To.ctl rfl (fun _ _=>stepG_inBlock) ?_
  refine To.ctl rfl (fun _ _=>stepG_inBlock) ?_
  refine To.ctl rfl (fun _ _=>stepG_inLoop) ?_
  exact To.nil ⟨_,_,_,_,_,_,_,_,_,_,_,_,_,_,_,_,_,_,_,_,_,_,_,_,_,_,_,_,_,_,_,by rw[hn2];rfl⟩
set_option maxRecDepth 100000 in
set_option maxHeartbeats 8000000 in
theorem sel_got {g:Goroutine}(h:SelG k N cs bL nx th g):To Tryz.prog true (Bc k) (EvC k) (AlG k N cs bL nx th i a e) (g.finishComm Tryz.prog (selC k N nx) .select 1 (.agg #[.int .i64 (i:Nat),.int .i64 a,e]) true):=by
 obtain⟨x3,x4,x5,x6,x10,x11,x12,x13,x14,x15,x19,x20,x21,x22,x23,x24,x25,x26,x27,x28,x29,x30,x31,x32,x33,x34,x35,x36,rfl⟩:=h
 have hs:(S44 cs #[.int .i64 (N:Nat),nch k N nx,.chan (some k.cR),x3,x4,x5,x6,.slice (some ⟨bL,0,none⟩) N N,.int .i64 (nx:Nat),.int .i64 (th:Nat),x10,x11,x12,x13,x14,x15,nch k N nx,.int .i64 (nx:Nat),.chan (some k.cR),x19,x20,x21,x22,x23,x24,x25,x26,x27,x28,x29,x30,x31,x32,x33,x34,x35,x36] [.inRegion opsSel [0,1,2,3],.code cSel,.inBlock 1,.inLoop lp44,.inBlock 0,.code tl44]).finishComm Tryz.prog (selC k N nx) .select 1 (.agg #[.int .i64 (i:Nat),.int .i64 a,e]) true=S44 cs #[.int .i64 (N:Nat),nch k N nx,.chan (some k.cR),x3,x4,x5,x6,.slice (some ⟨bL,0,none⟩) N N,.int .i64 (nx:Nat),.int .i64 (th:Nat),x10,x11,x12,x13,x14,x15,nch k N nx,.int .i64 (nx:Nat),.chan (some k.cR),.tuple #[.int .i64 1,.bool true,.agg #[.int .i64 (i:Nat),.int .i64 a,e]],x20,x21,x22,x23,x24,x25,x26,x27,x28,x29,x30,x31,x32,x33,x34,x35,x36] [.inRegion opsSel [1,2,3],.code cSel,.inBlock 1,.inLoop lp44,.inBlock 0,.code tl44]:=by
  unfold Goroutine.finishComm
  rw[res1]
  rfl
 rw[hs]
 simp only[S44,opsSel,cSel,bd44,lp44,tl44,body44,Tryz.f44,Option.getD_some]
 refine To.value _ rfl rfl (by k_ne) (fun _ _=>by go_simp<;>rfl) (fun _ _=>by simp[go_sem]) ?_;walk_nrm
 refine To.value _ rfl rfl (by k_ne) (fun _ _=>by go_simp<;>rfl) (fun _ _=>by simp[go_sem]) ?_;walk_nrm
 refine To.value _ rfl rfl (by k_ne) (fun _ _=>by go_simp<;>rfl) (fun _ _=>by simp[go_sem]) ?_;walk_nrm
 refine To.ctl rfl (fun _ _=>stepG_region_end) ?_
 refine To.ctl rfl (fun _ _=>stepG_block) ?_
 refine To.ctl rfl (fun _ _=>stepG_cond (t:=false) rfl) ?_;simp only[if_true,if_false,Bool.false_eq_true,↓reduceIte]
 refine To.ctl rfl (fun _ _=>stepG_cond (t:=true) rfl) ?_;simp only[if_true,if_false,Bool.false_eq_true,↓reduceIte]
 refine To.ctl rfl (fun _ _=>stepG_seq) ?_
 refine To.ctl rfl (fun _ _=>stepG_region) ?_;simp only[List.size_toArray,List.length_cons,List.length_nil,Nat.reduceAdd,Nat.zero_add,List.range,List.range.loop]
 refine To.value _ rfl rfl (by k_ne) (fun _ _=>by go_simp<;>rfl) (fun _ _=>by simp[go_sem]) ?_;walk_nrm
 exact To.nil ⟨_,_,_,_,_,_,_,_,_,_,_,_,_,_,_,_,_,_,_,_,_,_,_,_,_,_,_,_,_,_,rfl⟩
end
end Go.Proofs.YtjeicikflkjacaaGreatDoor.Ms
