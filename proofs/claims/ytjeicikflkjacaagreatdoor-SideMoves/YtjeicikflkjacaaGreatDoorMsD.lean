/- sync.WaitGroup's Wait by the caller: its own steps between what the others see. -/
import Derived.Test.YtjeicikflkjacaaGreatDoorM7
import Derived.Conc.WgGenN3
set_option linter.unusedSimpArgs false
set_option linter.unusedVariables false
namespace Go.Proofs.YtjeicikflkjacaaGreatDoor.Ms
open Go Go.Conc Go.Conc.Lib Go.RowKit Go.ConcN Go.ConcR.Gen Go.ConcN.Gen
open Go.ConcR (KK wgBlock WgAt stA smA rd wr mk Payload Aside2 DC0)
section
variable (P:Program) (L:WgLink) (Wg:Nat) (B:World→Prop) (Ev:Event→Prop) (c:Frame) (cs:List Frame)
def AnchG (g:Goroutine):Prop:=∃T:Array Value,g=G ((base L.wait).at ⟨T,[]⟩ [.code (L7 L),.inLoop (L7 L),.inBlock 0]) (c :: cs)∧T.size=84∧T[0]?=some (.pointer (some ⟨Wg,0,none⟩))
variable (K:Goroutine→Prop)
def WtQ (g:Goroutine):Prop:=g.status=.running∧∃g1,(∀w,stepG P true g w=.go g1 w #[mk (.acquire (stA Wg))])∧To P true B Ev K g1
def WtE (g:Goroutine):Prop:=g.status=.running∧∃g1,(∀w,stepG P true g w=.go g1 w #[mk .enable])∧To P true B Ev (WtQ P Wg B Ev K) g1
def Wt4 (g:Goroutine):Prop:=g.status=.running∧∃g1,(∀w,WgAt L.tWg Wg w 0 0→stepG P true g w=.go g1 w #[rd (stA Wg)])∧To P true B Ev (WtE P Wg B Ev K) g1
def Wt3 (g:Goroutine):Prop:=g.status=.running∧g.offers=none∧(∀w st,WgAt L.tWg Wg w st 0→stepG P true g w=.go { g with status:=.blocked } w #[]) ∧
 ∃g1,(∀w,WgAt L.tWg Wg w 0 1→stepG P true g w=.go g1 (w.setCell (smA Wg) (.int .u32 0)) (semEvents (smA Wg)))∧To P true B Ev (Wt4 P L Wg B Ev K) g1
def Wt2 (vs:Nat)(g:Goroutine):Prop:=g.status=.running ∧
 (∃g1,(∀w,WgAt L.tWg Wg w (vs*KK) 0→stepG P true g w=.go g1 (w.setCell (stA Wg) (.int .u64 (vs*KK+1))) #[rd (stA Wg),wr (stA Wg)])∧To P true B Ev (Wt3 P L Wg B Ev K) g1) ∧
 ∃g1,(∀w (v:Nat),v≠vs→WgAt L.tWg Wg w (v*KK) 0→stepG P true g w=.go g1 w #[rd (stA Wg)])∧To P true B Ev (AnchG L Wg c cs) g1
def Wt1 (g:Goroutine):Prop:=g.status=.running∧∀v:Nat,v<2147483648→∃g1,(∀w,WgAt L.tWg Wg w (v*KK) 0→stepG P true g w=.go g1 w #[rd (stA Wg)]) ∧
 (v=0→To P true B Ev (WtE P Wg B Ev K) g1)∧(v≠0→To P true B Ev (Wt2 P L Wg B Ev c cs K v) g1)
def WtK (g:Goroutine):Prop:=g.status=.running∧∃g1,(∀w,stepG P true g w=.go g1 w #[mk .disable])∧To P true B Ev (AnchG L Wg c cs) g1
end
section
variable {P:Program} {L:WgLink} {Wg:Nat} {B:World→Prop} {Ev:Event→Prop} {K:Goroutine→Prop} {b₀:Frame} {a₀:Act} {ops₀:Array Oper} {i₀:Nat} {rest₀:List Nat} {k₀:List Item} {cs:List Frame}
set_option maxRecDepth 100000 in
set_option maxHeartbeats 16000000 in
theorem wait_round [Payload] (H:WgLib P L)(hB:∀w,B w→WgLive L.tWg Wg w)(hW:Ev ⟨.mark (.write ⟨Wg,1,none⟩),false,true⟩)
  (hT:To P true B Ev K (G (b₀.at (a₀.put ((ops₀[i₀]?).bind (·.dst)) (.tuple #[])) (.inRegion ops₀ rest₀ :: k₀)) cs))
  (g:Goroutine) (h:AnchG L Wg (b₀.at a₀ (.inRegion ops₀ (i₀ :: rest₀) :: k₀)) cs g):To P true B Ev (Wt1 P L Wg B Ev (b₀.at a₀ (.inRegion ops₀ (i₀ :: rest₀) :: k₀)) cs K) g:=by
 lib_facts
 obtain⟨T,rfl,hT84,t0⟩:=h
 obtain⟨v0,v1,v2,v3,v4,v5,v6,v7,v8,v9,v10,v11,v12,v13,v14,v15,v16,v17,v18,v19,v20,v21,v22,v23,v24,v25,v26,v27,v28,v29,v30,v31,v32,v33,v34,v35,v36,v37,v38,v39,v40,v41,v42,v43,v44,v45,v46,v47,v48,v49,v50,v51,v52,v53,v54,v55,v56,v57,v58,v59,v60,v61,v62,v63,v64,v65,v66,v67,v68,v69,v70,v71,v72,v73,v74,v75,v76,v77,v78,v79,v80,v81,v82,v83,rfl⟩:=array84 T hT84
 simp only[List.getElem?_toArray,List.getElem?_cons_zero,Option.some.injEq] at t0
 subst t0
 simp only[L7,body_wait,waitFn,Option.getD_some]
 refine To.ctl rfl (fun _ _=>stepG_block) ?_
 refine To.ctl rfl (fun _ _=>stepG_seq) ?_
 refine To.ctl rfl (fun _ _=>stepG_region) ?_;simp only[List.size_toArray,List.length_cons,List.length_nil,Nat.reduceAdd,Nat.zero_add,List.range,List.range.loop]
 refine To.value _ rfl rfl (by k_ne) (fun _ _=>by go_simp<;>rfl) (fun _ _=>by first|(simp[go_sem];done)|simp[go_sem, *]) ?_;walk_nrm;try w_num
 refine To.value _ rfl rfl (by k_ne) (fun _ _=>by go_simp<;>rfl) (fun _ _=>by first|(simp[go_sem];done)|simp[go_sem, *]) ?_;walk_nrm;try w_num
 refine To.value _ rfl rfl (by k_ne) (fun _ _=>by go_simp<;>rfl) (fun _ _=>by first|(simp[go_sem];done)|simp[go_sem, *]) ?_;walk_nrm;try w_num
 refine To.call rfl rfl (by k_ne) rfl H.f_uLoad (nm_uLoad L) rfl ?_;walk_nrmf uLoadFn
 refine To.ctl rfl (fun _ _=>stepG_seq) ?_
 refine To.ctl rfl (fun _ _=>stepG_region) ?_;simp only[List.size_toArray,List.length_cons,List.length_nil,Nat.reduceAdd,Nat.zero_add,List.range,List.range.loop]
 refine To.value _ rfl rfl (by k_ne) (fun _ _=>by go_simp<;>rfl) (fun _ _=>by first|(simp[go_sem];done)|simp[go_sem, *]) ?_;walk_nrm;try w_num
 refine To.ctl rfl (fun _ _=>stepG_region_end) ?_
 refine To.ctl rfl (fun _ _=>stepG_seq) ?_
 refine To.ctl rfl (fun _ _=>stepG_region) ?_;simp only[List.size_toArray,List.length_cons,List.length_nil,Nat.reduceAdd,Nat.zero_add,List.range,List.range.loop]
 refine To.value _ rfl rfl (by k_ne) (fun _ _=>by go_simp<;>rfl) (fun _ _=>by first|(simp[go_sem];done)|simp[go_sem, *]) ?_;walk_nrm;try w_num
 refine To.value _ rfl rfl (by k_ne) (fun _ _=>by go_simp<;>rfl) (fun _ _=>by first|(simp[go_sem];done)|simp[go_sem, *]) ?_;walk_nrm;try w_num
 refine To.value _ rfl rfl (by k_ne) (fun _ _=>by go_simp<;>rfl) (fun _ _=>by first|(simp[go_sem];done)|simp[go_sem, *]) ?_;walk_nrm;try w_num
 refine To.nil ⟨rfl,fun v hv=>?_⟩
 rcases Nat.eq_zero_or_pos v with rfl|hvp
 ·have z0:((0:Nat):Int)*KK=0:=by simp
  rw[z0]
  refine⟨_,fun w hw=>stepG_load_atomic (v:=0) rfl rfl (by k_ne) rfl H.f_loadU64 (x_loadU64_n L) (x_loadU64_b L) (x_loadU64_x L) .u64 (x_loadU64_f L) rfl hw.cellSt,fun _=>?_,fun h=>absurd rfl h⟩
  walk_nrm
  refine To.value _ rfl rfl (by k_ne) (fun _ _=>by go_simp<;>rfl) (fun _ _=>by first|(simp[go_sem];done)|simp[go_sem, *]) ?_;walk_nrm;try w_num
  refine To.ctl rfl (fun _ _=>stepG_region_end) ?_
  refine To.ctl rfl (fun _ _=>stepG_ret') ?_
  refine To.leave1 rfl rfl H.f_uLoad rfl ?_;walk_nrm
  refine To.value _ rfl rfl (by k_ne) (fun _ _=>by go_simp<;>rfl) (fun _ _=>by first|(simp[go_sem];done)|simp[go_sem, *]) ?_;walk_nrm;try w_num
  refine To.ctl rfl (fun _ _=>stepG_region_end) ?_
  refine To.ctl rfl (fun _ _=>stepG_seq) ?_
  refine To.ctl rfl (fun _ _=>stepG_region) ?_;simp only[List.size_toArray,List.length_cons,List.length_nil,Nat.reduceAdd,Nat.zero_add,List.range,List.range.loop]
  refine To.value _ rfl rfl (by k_ne) (fun _ _=>by go_simp<;>rfl) (fun _ _=>by first|(simp[go_sem];done)|simp[go_sem, *]) ?_;walk_nrm;try w_num
  refine To.value _ rfl rfl (by k_ne) (fun _ _=>by go_simp<;>rfl) (fun _ _=>by first|(simp[go_sem];done)|simp[go_sem, *]) ?_;walk_nrm;try w_num
  refine To.value _ rfl rfl (by k_ne) (fun _ _=>by go_simp<;>rfl) (fun _ _=>by first|(simp[go_sem];done)|simp[go_sem, *]) ?_;walk_nrm;try w_num
  refine To.value _ rfl rfl (by k_ne) (fun _ _=>by go_simp<;>rfl) (fun _ _=>by first|(simp[go_sem];done)|simp[go_sem, *]) ?_;walk_nrm;try w_num
  refine To.ctl rfl (fun _ _=>stepG_region_end) ?_
  refine To.ctl rfl (fun _ _=>stepG_seq) ?_
  refine To.ctl rfl (fun _ _=>stepG_region) ?_;simp only[List.size_toArray,List.length_cons,List.length_nil,Nat.reduceAdd,Nat.zero_add,List.range,List.range.loop]
  refine To.value _ rfl rfl (by k_ne) (fun _ _=>by go_simp<;>rfl) (fun _ _=>by first|(simp[go_sem];done)|simp[go_sem, *]) ?_;walk_nrm;try w_num
  refine To.value _ rfl rfl (by k_ne) (fun _ _=>by go_simp<;>rfl) (fun _ _=>by first|(simp[go_sem];done)|simp[go_sem, *]) ?_;walk_nrm;try w_num
  refine To.value _ rfl rfl (by k_ne) (fun _ _=>by go_simp<;>rfl) (fun _ _=>by first|(simp[go_sem];done)|simp[go_sem, *]) ?_;walk_nrm;try w_num
  refine To.value _ rfl rfl (by k_ne) (fun _ _=>by go_simp<;>rfl) (fun _ _=>by first|(simp[go_sem];done)|simp[go_sem, *]) ?_;walk_nrm;try w_num
  refine To.ctl rfl (fun _ _=>stepG_region_end) ?_
  refine To.ctl rfl (fun _ _=>stepG_seq) ?_
  refine To.ctl rfl (fun _ _=>stepG_seq) ?_
  refine To.ctl rfl (fun _ _=>stepG_region) ?_;simp only[List.size_toArray,List.length_cons,List.length_nil,Nat.reduceAdd,Nat.zero_add,List.range,List.range.loop]
  refine To.value _ rfl rfl (by k_ne) (fun _ _=>by go_simp<;>rfl) (fun _ _=>by first|(simp[go_sem];done)|simp[go_sem, *]) ?_;walk_nrm;try w_num
  refine To.value _ rfl rfl (by k_ne) (fun _ _=>by go_simp<;>rfl) (fun _ _=>by first|(simp[go_sem];done)|simp[go_sem, *]) ?_;walk_nrm;try w_num
  refine To.ctl rfl (fun _ _=>stepG_region_end) ?_
  refine To.ctl rfl (fun _ _=>stepG_cond (t:=true) rfl) ?_;simp only[if_true,if_false,Bool.false_eq_true,↓reduceIte]
  refine To.ctl rfl (fun _ _=>stepG_seq) ?_
  refine To.ctl rfl (fun _ _=>stepG_cond (t:=true) rfl) ?_;simp only[if_true,if_false,Bool.false_eq_true,↓reduceIte]
  refine To.ctl rfl (fun _ _=>stepG_seq) ?_
  refine To.ctl rfl (fun _ _=>stepG_region) ?_;simp only[List.size_toArray,List.length_cons,List.length_nil,Nat.reduceAdd,Nat.zero_add,List.range,List.range.loop]
  refine To.nil ⟨rfl,_,fun w=>stepG_mark0 .enable (by simp) rfl rfl (by k_ne) rfl H.f_enable (x_enable_n L) (x_enable_b L) (x_enable_x L) (x_enable_f L),?_⟩
  walk_nrm
  refine To.ctl rfl (fun _ _=>stepG_region_end) ?_
  refine To.ctl rfl (fun _ _=>stepG_region) ?_;simp only[List.size_toArray,List.length_cons,List.length_nil,Nat.reduceAdd,Nat.zero_add,List.range,List.range.loop]
  refine To.value _ rfl rfl (by k_ne) (fun _ _=>by go_simp<;>rfl) (fun _ _=>by first|(simp[go_sem];done)|simp[go_sem, *]) ?_;walk_nrm;try w_num
  refine To.value _ rfl rfl (by k_ne) (fun w hb=>by have hcv:=run_convert_to_unsafe (P:=P) H.underlying_tWgP H.underlying_tUP H.room_tWg (WgLive.cell0 (hB w hb)).choose_spec;go_simp<;>rfl) (fun w hb=>by have hce:=fun es=>events_convert_to_unsafe (P:=P) H.underlying_tWgP H.underlying_tUP H.room_tWg (WgLive.cell0 (hB w hb)).choose_spec es;simp[go_sem,hce]) ?_;walk_nrm
  refine To.nil ⟨rfl,_,fun w=>stepG_markAt .acquire (by simp) rfl rfl (by k_ne) rfl H.f_acquire (x_acquire_n L) (x_acquire_b L) (x_acquire_x L) (x_acquire_f L) (by simp[Act.eval,stA]),?_⟩
  walk_nrm
  refine To.ctl rfl (fun _ _=>stepG_region_end) ?_
  refine To.ctl rfl (fun _ _=>stepG_seq) ?_
  refine To.ctl rfl (fun _ _=>stepG_seq) ?_
  refine To.ctl rfl (fun _ _=>stepG_region) ?_;simp only[List.size_toArray,List.length_cons,List.length_nil,Nat.reduceAdd,Nat.zero_add,List.range,List.range.loop]
  refine To.value _ rfl rfl (by k_ne) (fun _ _=>by go_simp<;>rfl) (fun _ _=>by first|(simp[go_sem];done)|simp[go_sem, *]) ?_;walk_nrm;try w_num
  refine To.value _ rfl rfl (by k_ne) (fun _ _=>by go_simp<;>rfl) (fun _ _=>by first|(simp[go_sem];done)|simp[go_sem, *]) ?_;walk_nrm;try w_num
  refine To.value _ rfl rfl (by k_ne) (fun _ _=>by go_simp<;>rfl) (fun _ _=>by first|(simp[go_sem];done)|simp[go_sem, *]) ?_;walk_nrm;try w_num
  refine To.value _ rfl rfl (by k_ne) (fun _ _=>by go_simp<;>rfl) (fun _ _=>by first|(simp[go_sem];done)|simp[go_sem, *]) ?_;walk_nrm;try w_num
  refine To.value _ rfl rfl (by k_ne) (fun _ _=>by go_simp<;>rfl) (fun _ _=>by first|(simp[go_sem];done)|simp[go_sem, *]) ?_;walk_nrm;try w_num
  refine To.value _ rfl rfl (by k_ne) (fun _ _=>by go_simp<;>rfl) (fun _ _=>by first|(simp[go_sem];done)|simp[go_sem, *]) ?_;walk_nrm;try w_num
  refine To.value _ rfl rfl (by k_ne) (fun _ _=>by go_simp<;>rfl) (fun _ _=>by first|(simp[go_sem];done)|simp[go_sem, *]) ?_;walk_nrm;try w_num
  refine To.value _ rfl rfl (by k_ne) (fun _ _=>by go_simp<;>rfl) (fun _ _=>by first|(simp[go_sem];done)|simp[go_sem, *]) ?_;walk_nrm;try w_num
  refine To.unwanted rfl rfl ?_;walk_nrm
  refine To.unwanted rfl rfl ?_;walk_nrm
  refine To.value _ rfl rfl (by k_ne) (fun _ _=>by go_simp<;>rfl) (fun _ _=>by first|(simp[go_sem];done)|simp[go_sem, *]) ?_;walk_nrm;try w_num
  refine To.ctl rfl (fun _ _=>stepG_region_end) ?_
  refine To.ctl rfl (fun _ _=>stepG_cond (t:=false) rfl) ?_;simp only[if_true,if_false,Bool.false_eq_true,↓reduceIte]
  refine To.ctl rfl (fun _ _=>stepG_skip) ?_
  refine To.ctl rfl (fun _ _=>stepG_ret') ?_
  refine To.leave0 rfl rfl H.f_wait rfl ?_;walk_nrm
  exact hT
 ·obtain⟨S,hS⟩:∃S:Int,(v:Int)*KK=S:=⟨_,rfl⟩
  have a1:S / 4294967296=(v:Int):=by rw[←hS];simp only[KK];omega
  have b1:bits .and .u64 S 2147483648=0:=by rw[←hS];have:=st_flag v 0 (by omega) (by omega);simpa [KK] using this
  have b2:bits .and .u64 S 2147483647=0:=by rw[←hS];have:=st_waiters v 0 (by omega) (by omega);simpa [KK] using this
  have c1:IntKind.i32.wrap (v:Int)=(v:Int):=by rw[IntKind.wrap_i32];omega
  have w1:IntKind.u64.wrap (S+1)=S+1:=by rw[IntKind.wrap_u64,←hS];simp only[KK];omega
  have q3:decide ((v:Int)<0)=false:=decide_eq_false (by omega)
  have q4:decide (0<(v:Int))=true:=decide_eq_true (by omega)
  have q5:((v:Int)==0)=false:=by simp;omega
  have q6:decide ((v:Int)=0)=false:=decide_eq_false (by omega)
  rw[hS]
  refine⟨_,fun w hw=>stepG_load_atomic (v:=S) rfl rfl (by k_ne) rfl H.f_loadU64 (x_loadU64_n L) (x_loadU64_b L) (x_loadU64_x L) .u64 (x_loadU64_f L) rfl hw.cellSt,fun h0=>absurd h0 (by omega),fun _=>?_⟩
  walk_nrm
  refine To.value _ rfl rfl (by k_ne) (fun _ _=>by go_simp<;>rfl) (fun _ _=>by first|(simp[go_sem];done)|simp[go_sem, *]) ?_;walk_nrm;try w_num
  refine To.ctl rfl (fun _ _=>stepG_region_end) ?_
  refine To.ctl rfl (fun _ _=>stepG_ret') ?_
  refine To.leave1 rfl rfl H.f_uLoad rfl ?_;walk_nrm
  refine To.value _ rfl rfl (by k_ne) (fun _ _=>by go_simp<;>rfl) (fun _ _=>by first|(simp[go_sem];done)|simp[go_sem, *]) ?_;walk_nrm;try w_num
  refine To.ctl rfl (fun _ _=>stepG_region_end) ?_
  refine To.ctl rfl (fun _ _=>stepG_seq) ?_
  refine To.ctl rfl (fun _ _=>stepG_region) ?_;simp only[List.size_toArray,List.length_cons,List.length_nil,Nat.reduceAdd,Nat.zero_add,List.range,List.range.loop]
  refine To.value _ rfl rfl (by k_ne) (fun _ _=>by go_simp<;>rfl) (fun _ _=>by first|(simp[go_sem];done)|simp[go_sem, *]) ?_;walk_nrm;try w_num
  refine To.value _ rfl rfl (by k_ne) (fun _ _=>by go_simp<;>rfl) (fun _ _=>by first|(simp[go_sem];done)|simp[go_sem, *]) ?_;walk_nrm;try w_num
  refine To.value _ rfl rfl (by k_ne) (fun _ _=>by go_simp<;>rfl) (fun _ _=>by first|(simp[go_sem];done)|simp[go_sem, *]) ?_;walk_nrm;try w_num
  refine To.value _ rfl rfl (by k_ne) (fun _ _=>by go_simp<;>rfl) (fun _ _=>by first|(simp[go_sem];done)|simp[go_sem, *]) ?_;walk_nrm;try w_num
  refine To.ctl rfl (fun _ _=>stepG_region_end) ?_
  refine To.ctl rfl (fun _ _=>stepG_seq) ?_
  refine To.ctl rfl (fun _ _=>stepG_region) ?_;simp only[List.size_toArray,List.length_cons,List.length_nil,Nat.reduceAdd,Nat.zero_add,List.range,List.range.loop]
  refine To.value _ rfl rfl (by k_ne) (fun _ _=>by go_simp<;>rfl) (fun _ _=>by first|(simp[go_sem];done)|simp[go_sem, *]) ?_;walk_nrm;try w_num
  refine To.value _ rfl rfl (by k_ne) (fun _ _=>by go_simp<;>rfl) (fun _ _=>by first|(simp[go_sem];done)|simp[go_sem, *]) ?_;walk_nrm;try w_num
  refine To.value _ rfl rfl (by k_ne) (fun _ _=>by go_simp<;>rfl) (fun _ _=>by first|(simp[go_sem];done)|simp[go_sem, *]) ?_;walk_nrm;try w_num
  refine To.value _ rfl rfl (by k_ne) (fun _ _=>by go_simp<;>rfl) (fun _ _=>by first|(simp[go_sem];done)|simp[go_sem, *]) ?_;walk_nrm;try w_num
  refine To.ctl rfl (fun _ _=>stepG_region_end) ?_
  refine To.ctl rfl (fun _ _=>stepG_seq) ?_
  refine To.ctl rfl (fun _ _=>stepG_seq) ?_
  refine To.ctl rfl (fun _ _=>stepG_region) ?_;simp only[List.size_toArray,List.length_cons,List.length_nil,Nat.reduceAdd,Nat.zero_add,List.range,List.range.loop]
  refine To.value _ rfl rfl (by k_ne) (fun _ _=>by go_simp<;>rfl) (fun _ _=>by first|(simp[go_sem];done)|simp[go_sem, *]) ?_;walk_nrm;try w_num
  refine To.value _ rfl rfl (by k_ne) (fun _ _=>by go_simp<;>rfl) (fun _ _=>by first|(simp[go_sem];done)|simp[go_sem, *]) ?_;walk_nrm;try w_num
  refine To.ctl rfl (fun _ _=>stepG_region_end) ?_
  refine To.ctl rfl (fun _ _=>stepG_cond (t:=false) (by first|rfl|(simp[Act.eval];omega))) ?_;simp only[if_true,if_false,Bool.false_eq_true,↓reduceIte]
  refine To.ctl rfl (fun _ _=>stepG_skip) ?_
  refine To.ctl rfl (fun _ _=>stepG_seq) ?_
  refine To.ctl rfl (fun _ _=>stepG_region) ?_;simp only[List.size_toArray,List.length_cons,List.length_nil,Nat.reduceAdd,Nat.zero_add,List.range,List.range.loop]
  refine To.value _ rfl rfl (by k_ne) (fun _ _=>by go_simp<;>rfl) (fun _ _=>by first|(simp[go_sem];done)|simp[go_sem, *]) ?_;walk_nrm;try w_num
  refine To.value _ rfl rfl (by k_ne) (fun _ _=>by go_simp<;>rfl) (fun _ _=>by first|(simp[go_sem];done)|simp[go_sem, *]) ?_;walk_nrm;try w_num
  refine To.value _ rfl rfl (by k_ne) (fun _ _=>by go_simp<;>rfl) (fun _ _=>by first|(simp[go_sem];done)|simp[go_sem, *]) ?_;walk_nrm;try w_num
  refine To.value _ rfl rfl (by k_ne) (fun _ _=>by go_simp<;>rfl) (fun _ _=>by first|(simp[go_sem];done)|simp[go_sem, *]) ?_;walk_nrm;try w_num
  refine To.value _ rfl rfl (by k_ne) (fun _ _=>by go_simp<;>rfl) (fun _ _=>by first|(simp[go_sem];done)|simp[go_sem, *]) ?_;walk_nrm;try w_num
  refine To.value _ rfl rfl (by k_ne) (fun _ _=>by go_simp<;>rfl) (fun _ _=>by first|(simp[go_sem];done)|simp[go_sem, *]) ?_;walk_nrm;try w_num
  refine To.call rfl rfl (by k_ne) rfl H.f_uCas (nm_uCas L) rfl ?_;walk_nrmf uCasFn
  refine To.ctl rfl (fun _ _=>stepG_seq) ?_
  refine To.ctl rfl (fun _ _=>stepG_region) ?_;simp only[List.size_toArray,List.length_cons,List.length_nil,Nat.reduceAdd,Nat.zero_add,List.range,List.range.loop]
  refine To.value _ rfl rfl (by k_ne) (fun _ _=>by go_simp<;>rfl) (fun _ _=>by first|(simp[go_sem];done)|simp[go_sem, *]) ?_;walk_nrm;try w_num
  refine To.ctl rfl (fun _ _=>stepG_region_end) ?_
  refine To.ctl rfl (fun _ _=>stepG_seq) ?_
  refine To.ctl rfl (fun _ _=>stepG_region) ?_;simp only[List.size_toArray,List.length_cons,List.length_nil,Nat.reduceAdd,Nat.zero_add,List.range,List.range.loop]
  refine To.value _ rfl rfl (by k_ne) (fun _ _=>by go_simp<;>rfl) (fun _ _=>by first|(simp[go_sem];done)|simp[go_sem, *]) ?_;walk_nrm;try w_num
  refine To.value _ rfl rfl (by k_ne) (fun _ _=>by go_simp<;>rfl) (fun _ _=>by first|(simp[go_sem];done)|simp[go_sem, *]) ?_;walk_nrm;try w_num
  refine To.value _ rfl rfl (by k_ne) (fun _ _=>by go_simp<;>rfl) (fun _ _=>by first|(simp[go_sem];done)|simp[go_sem, *]) ?_;walk_nrm;try w_num
  refine To.value _ rfl rfl (by k_ne) (fun _ _=>by go_simp<;>rfl) (fun _ _=>by first|(simp[go_sem];done)|simp[go_sem, *]) ?_;walk_nrm;try w_num
  refine To.value _ rfl rfl (by k_ne) (fun _ _=>by go_simp<;>rfl) (fun _ _=>by first|(simp[go_sem];done)|simp[go_sem, *]) ?_;walk_nrm;try w_num
  refine To.nil ⟨rfl,?_,?_⟩
  ·rw[hS]
   refine⟨_,fun w hw=>(stepG_cas_hit (v:=S) (n:=S+1) rfl rfl (by k_ne) rfl H.f_casU64 (x_casU64_n L) (x_casU64_b L) (x_casU64_x L) .u64 (x_casU64_f L) rfl rfl rfl hw.cellSt (hw.thaw 0)).trans (by rfl),?_⟩
   walk_nrm
   refine To.value _ rfl rfl (by k_ne) (fun _ _=>by go_simp<;>rfl) (fun _ _=>by first|(simp[go_sem];done)|simp[go_sem, *]) ?_;walk_nrm;try w_num
   refine To.ctl rfl (fun _ _=>stepG_region_end) ?_
   refine To.ctl rfl (fun _ _=>stepG_ret') ?_
   refine To.leave1 rfl rfl H.f_uCas rfl ?_;walk_nrm
   refine To.ctl rfl (fun _ _=>stepG_region_end) ?_
   refine To.ctl rfl (fun _ _=>stepG_cond (t:=true) rfl) ?_;simp only[if_true,if_false,Bool.false_eq_true,↓reduceIte]
   refine To.ctl rfl (fun _ _=>stepG_seq) ?_
   refine To.ctl rfl (fun _ _=>stepG_seq) ?_
   refine To.ctl rfl (fun _ _=>stepG_region) ?_;simp only[List.size_toArray,List.length_cons,List.length_nil,Nat.reduceAdd,Nat.zero_add,List.range,List.range.loop]
   refine To.value _ rfl rfl (by k_ne) (fun _ _=>by go_simp<;>rfl) (fun _ _=>by first|(simp[go_sem];done)|simp[go_sem, *]) ?_;walk_nrm;try w_num
   refine To.value _ rfl rfl (by k_ne) (fun _ _=>by go_simp<;>rfl) (fun _ _=>by first|(simp[go_sem];done)|simp[go_sem, *]) ?_;walk_nrm;try w_num
   refine To.value _ rfl rfl (by k_ne) (fun _ _=>by go_simp<;>rfl) (fun _ _=>by first|(simp[go_sem];done)|simp[go_sem, *]) ?_;walk_nrm;try w_num
   refine To.value _ rfl rfl (by k_ne) (fun _ _=>by go_simp<;>rfl) (fun _ _=>by first|(simp[go_sem];done)|simp[go_sem, *]) ?_;walk_nrm;try w_num
   refine To.ctl rfl (fun _ _=>stepG_region_end) ?_
   refine To.ctl rfl (fun _ _=>stepG_cond (t:=true) rfl) ?_;simp only[if_true,if_false,Bool.false_eq_true,↓reduceIte]
   refine To.ctl rfl (fun _ _=>stepG_region) ?_;simp only[List.size_toArray,List.length_cons,List.length_nil,Nat.reduceAdd,Nat.zero_add,List.range,List.range.loop]
   refine To.value _ rfl rfl (by k_ne) (fun _ _=>by go_simp<;>rfl) (fun _ _=>by first|(simp[go_sem];done)|simp[go_sem, *]) ?_;walk_nrm;try w_num
   refine To.value _ rfl rfl (by k_ne) (fun _ _=>by go_simp<;>rfl) (fun _ _=>by first|(simp[go_sem];done)|simp[go_sem, *]) ?_;walk_nrm;try w_num
   refine To.value _ rfl rfl (by k_ne) (fun _ _=>by go_simp<;>rfl) (fun _ _=>by first|(simp[go_sem];done)|simp[go_sem, *]) ?_;walk_nrm;try w_num
   refine To.value _ rfl rfl (by k_ne) (fun w hb=>by have hcv:=run_convert_to_unsafe (P:=P) H.underlying_tPU32 H.underlying_tUP H.room_tU32 (WgLive.cell1 (hB w hb)).choose_spec;go_simp<;>rfl) (fun w hb=>by have hce:=fun es=>events_convert_to_unsafe (P:=P) H.underlying_tPU32 H.underlying_tUP H.room_tU32 (WgLive.cell1 (hB w hb)).choose_spec es;simp[go_sem,hce]) ?_;walk_nrm
   refine To.cons rfl (by intro e he;rw[Array.mem_singleton] at he;subst he;exact hW) (fun w _=>stepG_markAt .write (by simp) rfl rfl (by k_ne) rfl H.f_raceWrite (x_raceWrite_n L) (x_raceWrite_b L) (x_raceWrite_x L) (x_raceWrite_f L) (ad:=⟨Wg,1,none⟩) (by simp[Act.eval])) ?_
   walk_nrm
   refine To.ctl rfl (fun _ _=>stepG_region_end) ?_
   refine To.ctl rfl (fun _ _=>stepG_seq) ?_
   refine To.ctl rfl (fun _ _=>stepG_region) ?_;simp only[List.size_toArray,List.length_cons,List.length_nil,Nat.reduceAdd,Nat.zero_add,List.range,List.range.loop]
   refine To.value _ rfl rfl (by k_ne) (fun _ _=>by go_simp<;>rfl) (fun _ _=>by first|(simp[go_sem];done)|simp[go_sem, *]) ?_;walk_nrm;try w_num
   refine To.ctl rfl (fun _ _=>stepG_region_end) ?_
   refine To.ctl rfl (fun _ _=>stepG_seq) ?_
   refine To.ctl rfl (fun _ _=>stepG_seq) ?_
   refine To.ctl rfl (fun _ _=>stepG_region) ?_;simp only[List.size_toArray,List.length_cons,List.length_nil,Nat.reduceAdd,Nat.zero_add,List.range,List.range.loop]
   refine To.value _ rfl rfl (by k_ne) (fun _ _=>by go_simp<;>rfl) (fun _ _=>by first|(simp[go_sem];done)|simp[go_sem, *]) ?_;walk_nrm;try w_num
   refine To.value _ rfl rfl (by k_ne) (fun _ _=>by go_simp<;>rfl) (fun _ _=>by first|(simp[go_sem];done)|simp[go_sem, *]) ?_;walk_nrm;try w_num
   refine To.value _ rfl rfl (by k_ne) (fun _ _=>by go_simp<;>rfl) (fun _ _=>by first|(simp[go_sem];done)|simp[go_sem, *]) ?_;walk_nrm;try w_num
   refine To.value _ rfl rfl (by k_ne) (fun _ _=>by go_simp<;>rfl) (fun _ _=>by first|(simp[go_sem];done)|simp[go_sem, *]) ?_;walk_nrm;try w_num
   refine To.unwanted rfl rfl ?_;walk_nrm
   refine To.value _ rfl rfl (by k_ne) (fun _ _=>by go_simp<;>rfl) (fun _ _=>by first|(simp[go_sem];done)|simp[go_sem, *]) ?_;walk_nrm;try w_num
   refine To.ctl rfl (fun _ _=>stepG_region_end) ?_
   refine To.ctl rfl (fun _ _=>stepG_cond (t:=false) rfl) ?_;simp only[if_true,if_false,Bool.false_eq_true,↓reduceIte]
   refine To.ctl rfl (fun _ _=>stepG_skip) ?_
   refine To.ctl rfl (fun _ _=>stepG_seq) ?_
   refine To.ctl rfl (fun _ _=>stepG_region) ?_;simp only[List.size_toArray,List.length_cons,List.length_nil,Nat.reduceAdd,Nat.zero_add,List.range,List.range.loop]
   refine To.value _ rfl rfl (by k_ne) (fun _ _=>by go_simp<;>rfl) (fun _ _=>by first|(simp[go_sem];done)|simp[go_sem, *]) ?_;walk_nrm;try w_num
   refine To.value _ rfl rfl (by k_ne) (fun _ _=>by go_simp<;>rfl) (fun _ _=>by first|(simp[go_sem];done)|simp[go_sem, *]) ?_;walk_nrm;try w_num
   refine To.value _ rfl rfl (by k_ne) (fun _ _=>by go_simp<;>rfl) (fun _ _=>by first|(simp[go_sem];done)|simp[go_sem, *]) ?_;walk_nrm;try w_num
   refine To.value _ rfl rfl (by k_ne) (fun _ _=>by go_simp<;>rfl) (fun _ _=>by first|(simp[go_sem];done)|simp[go_sem, *]) ?_;walk_nrm;try w_num
   refine To.nil ⟨rfl,rfl,fun w st hw=>stepG_semacquire_wait rfl rfl rfl H.f_semacquire (x_semacquire_n L) (x_semacquire_b L) (x_semacquire_x L) (x_semacquire_f L) (by simp[Act.eval,smA]) hw.cellSm,?_⟩
   refine⟨_,fun w hf=>(stepG_semacquire (n:=1) rfl rfl (by k_ne) rfl H.f_semacquire (x_semacquire_n L) (x_semacquire_b L) (x_semacquire_x L) (x_semacquire_f L) (by simp[Act.eval,smA]) hf.cellSm (by k_ne) (hf.thaw 1)).trans (by rfl),?_⟩
   walk_nrm
   refine To.ctl rfl (fun _ _=>stepG_region_end) ?_
   refine To.ctl rfl (fun _ _=>stepG_seq) ?_
   refine To.ctl rfl (fun _ _=>stepG_region) ?_;simp only[List.size_toArray,List.length_cons,List.length_nil,Nat.reduceAdd,Nat.zero_add,List.range,List.range.loop]
   refine To.value _ rfl rfl (by k_ne) (fun _ _=>by go_simp<;>rfl) (fun _ _=>by first|(simp[go_sem];done)|simp[go_sem, *]) ?_;walk_nrm;try w_num
   refine To.value _ rfl rfl (by k_ne) (fun _ _=>by go_simp<;>rfl) (fun _ _=>by first|(simp[go_sem];done)|simp[go_sem, *]) ?_;walk_nrm;try w_num
   refine To.value _ rfl rfl (by k_ne) (fun _ _=>by go_simp<;>rfl) (fun _ _=>by first|(simp[go_sem];done)|simp[go_sem, *]) ?_;walk_nrm;try w_num
   refine To.call rfl rfl (by k_ne) rfl H.f_uLoad (nm_uLoad L) rfl ?_;walk_nrmf uLoadFn
   refine To.ctl rfl (fun _ _=>stepG_seq) ?_
   refine To.ctl rfl (fun _ _=>stepG_region) ?_;simp only[List.size_toArray,List.length_cons,List.length_nil,Nat.reduceAdd,Nat.zero_add,List.range,List.range.loop]
   refine To.value _ rfl rfl (by k_ne) (fun _ _=>by go_simp<;>rfl) (fun _ _=>by first|(simp[go_sem];done)|simp[go_sem, *]) ?_;walk_nrm;try w_num
   refine To.ctl rfl (fun _ _=>stepG_region_end) ?_
   refine To.ctl rfl (fun _ _=>stepG_seq) ?_
   refine To.ctl rfl (fun _ _=>stepG_region) ?_;simp only[List.size_toArray,List.length_cons,List.length_nil,Nat.reduceAdd,Nat.zero_add,List.range,List.range.loop]
   refine To.value _ rfl rfl (by k_ne) (fun _ _=>by go_simp<;>rfl) (fun _ _=>by first|(simp[go_sem];done)|simp[go_sem, *]) ?_;walk_nrm;try w_num
   refine To.value _ rfl rfl (by k_ne) (fun _ _=>by go_simp<;>rfl) (fun _ _=>by first|(simp[go_sem];done)|simp[go_sem, *]) ?_;walk_nrm;try w_num
   refine To.value _ rfl rfl (by k_ne) (fun _ _=>by go_simp<;>rfl) (fun _ _=>by first|(simp[go_sem];done)|simp[go_sem, *]) ?_;walk_nrm;try w_num
   refine To.nil ⟨rfl,_,fun w hw=>stepG_load_atomic (v:=0) rfl rfl (by k_ne) rfl H.f_loadU64 (x_loadU64_n L) (x_loadU64_b L) (x_loadU64_x L) .u64 (x_loadU64_f L) rfl hw.cellSt,?_⟩
   walk_nrm
   refine To.value _ rfl rfl (by k_ne) (fun _ _=>by go_simp<;>rfl) (fun _ _=>by first|(simp[go_sem];done)|simp[go_sem, *]) ?_;walk_nrm;try w_num
   refine To.ctl rfl (fun _ _=>stepG_region_end) ?_
   refine To.ctl rfl (fun _ _=>stepG_ret') ?_
   refine To.leave1 rfl rfl H.f_uLoad rfl ?_;walk_nrm
   refine To.value _ rfl rfl (by k_ne) (fun _ _=>by go_simp<;>rfl) (fun _ _=>by first|(simp[go_sem];done)|simp[go_sem, *]) ?_;walk_nrm;try w_num
   refine To.value _ rfl rfl (by k_ne) (fun _ _=>by go_simp<;>rfl) (fun _ _=>by first|(simp[go_sem];done)|simp[go_sem, *]) ?_;walk_nrm;try w_num
   refine To.ctl rfl (fun _ _=>stepG_region_end) ?_
   refine To.ctl rfl (fun _ _=>stepG_seq) ?_
   refine To.ctl rfl (fun _ _=>stepG_cond (t:=true) rfl) ?_;simp only[if_true,if_false,Bool.false_eq_true,↓reduceIte]
   refine To.ctl rfl (fun _ _=>stepG_seq) ?_
   refine To.ctl rfl (fun _ _=>stepG_region) ?_;simp only[List.size_toArray,List.length_cons,List.length_nil,Nat.reduceAdd,Nat.zero_add,List.range,List.range.loop]
   refine To.nil ⟨rfl,_,fun w=>stepG_mark0 .enable (by simp) rfl rfl (by k_ne) rfl H.f_enable (x_enable_n L) (x_enable_b L) (x_enable_x L) (x_enable_f L),?_⟩
   walk_nrm
   refine To.ctl rfl (fun _ _=>stepG_region_end) ?_
   refine To.ctl rfl (fun _ _=>stepG_region) ?_;simp only[List.size_toArray,List.length_cons,List.length_nil,Nat.reduceAdd,Nat.zero_add,List.range,List.range.loop]
   refine To.value _ rfl rfl (by k_ne) (fun _ _=>by go_simp<;>rfl) (fun _ _=>by first|(simp[go_sem];done)|simp[go_sem, *]) ?_;walk_nrm;try w_num
   refine To.value _ rfl rfl (by k_ne) (fun w hb=>by have hcv:=run_convert_to_unsafe (P:=P) H.underlying_tWgP H.underlying_tUP H.room_tWg (WgLive.cell0 (hB w hb)).choose_spec;go_simp<;>rfl) (fun w hb=>by have hce:=fun es=>events_convert_to_unsafe (P:=P) H.underlying_tWgP H.underlying_tUP H.room_tWg (WgLive.cell0 (hB w hb)).choose_spec es;simp[go_sem,hce]) ?_;walk_nrm
   refine To.nil ⟨rfl,_,fun w=>stepG_markAt .acquire (by simp) rfl rfl (by k_ne) rfl H.f_acquire (x_acquire_n L) (x_acquire_b L) (x_acquire_x L) (x_acquire_f L) (by simp[Act.eval,stA]),?_⟩
   walk_nrm
   refine To.ctl rfl (fun _ _=>stepG_region_end) ?_
   refine To.ctl rfl (fun _ _=>stepG_seq) ?_
   refine To.ctl rfl (fun _ _=>stepG_seq) ?_
   refine To.ctl rfl (fun _ _=>stepG_region) ?_;simp only[List.size_toArray,List.length_cons,List.length_nil,Nat.reduceAdd,Nat.zero_add,List.range,List.range.loop]
   refine To.value _ rfl rfl (by k_ne) (fun _ _=>by go_simp<;>rfl) (fun _ _=>by first|(simp[go_sem];done)|simp[go_sem, *]) ?_;walk_nrm;try w_num
   refine To.ctl rfl (fun _ _=>stepG_region_end) ?_
   refine To.ctl rfl (fun _ _=>stepG_cond (t:=false) rfl) ?_;simp only[if_true,if_false,Bool.false_eq_true,↓reduceIte]
   refine To.ctl rfl (fun _ _=>stepG_skip) ?_
   refine To.ctl rfl (fun _ _=>stepG_ret') ?_
   refine To.leave0 rfl rfl H.f_wait rfl ?_;walk_nrm
   exact hT
  ·refine⟨_,fun w v' e hw=>stepG_cas_miss (v:=(v':Int)*KK) (old:=S) (n:=S+1) rfl rfl (by k_ne) rfl H.f_casU64 (x_casU64_n L) (x_casU64_b L) (x_casU64_x L) .u64 (x_casU64_f L) rfl rfl rfl hw.cellSt (hw.thaw 0) (by rw[←hS];simp only[KK];omega),?_⟩
   walk_nrm
   refine To.value _ rfl rfl (by k_ne) (fun _ _=>by go_simp<;>rfl) (fun _ _=>by first|(simp[go_sem];done)|simp[go_sem, *]) ?_;walk_nrm;try w_num
   refine To.ctl rfl (fun _ _=>stepG_region_end) ?_
   refine To.ctl rfl (fun _ _=>stepG_ret') ?_
   refine To.leave1 rfl rfl H.f_uCas rfl ?_;walk_nrm
   refine To.ctl rfl (fun _ _=>stepG_region_end) ?_
   refine To.ctl rfl (fun _ _=>stepG_cond (t:=false) rfl) ?_;simp only[if_true,if_false,Bool.false_eq_true,↓reduceIte]
   refine To.ctl rfl (fun _ _=>stepG_skip) ?_
   refine To.ctl rfl (fun _ _=>stepG_inBlock) ?_
   refine To.ctl rfl (fun _ _=>stepG_inLoop) ?_
   exact To.nil ⟨_,rfl,by simp,by simp⟩
set_option maxRecDepth 100000 in
theorem wait_start [Payload] (H:WgLib P L){c:Frame}:To P true B Ev (WtK P L Wg B Ev c cs) (G ((base L.wait).at ⟨#[.pointer (some ⟨Wg,0,none⟩),undef,undef,undef,undef,undef,undef,undef,undef,undef,undef,undef,undef,undef,undef,undef,undef,undef,undef,undef,undef,undef,undef,undef,undef,undef,undef,undef,undef,undef,undef,undef,undef,undef,undef,undef,undef,undef,undef,undef,undef,undef,undef,undef,undef,undef,undef,undef,undef,undef,undef,undef,undef,undef,undef,undef,undef,undef,undef,undef,undef,undef,undef,undef,undef,undef,undef,undef,undef,undef,undef,undef,undef,undef,undef,undef,undef,undef,undef,undef,undef,undef,undef,undef],[]⟩ [.code (body_wait L)]) (c :: cs)):=by
 lib_facts
 simp only[body_wait,waitFn,Option.getD_some]
 refine To.ctl rfl (fun _ _=>stepG_seq) ?_
 refine To.ctl rfl (fun _ _=>stepG_cond (t:=true) rfl) ?_;simp only[if_true,if_false,Bool.false_eq_true,↓reduceIte]
 refine To.ctl rfl (fun _ _=>stepG_region) ?_;simp only[List.size_toArray,List.length_cons,List.length_nil,Nat.reduceAdd,Nat.zero_add,List.range,List.range.loop]
 refine To.nil ⟨rfl,_,fun w=>stepG_mark0 .disable (by simp) rfl rfl (by k_ne) rfl H.f_disable (x_disable_n L) (x_disable_b L) (x_disable_x L) (x_disable_f L),?_⟩
 walk_nrm
 refine To.ctl rfl (fun _ _=>stepG_region_end) ?_
 refine To.ctl rfl (fun _ _=>stepG_block) ?_
 refine To.ctl rfl (fun _ _=>stepG_loop) ?_
 exact To.nil ⟨_,rfl,by simp,by simp⟩
end
end Go.Proofs.YtjeicikflkjacaaGreatDoor.Ms
