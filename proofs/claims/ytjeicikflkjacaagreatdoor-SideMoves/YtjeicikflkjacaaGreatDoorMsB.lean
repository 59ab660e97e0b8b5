/- sync.WaitGroup's Add(1) by the caller: its own steps between what the others see. -/
import Derived.Test.YtjeicikflkjacaaGreatDoorM7
import Derived.Conc.WgGenN3
set_option linter.unusedSimpArgs false
set_option linter.unusedVariables false
namespace Go.Proofs.YtjeicikflkjacaaGreatDoor.Ms
open Go Go.Conc Go.Conc.Lib Go.RowKit Go.ConcN Go.ConcR.Gen Go.ConcN.Gen
open Go.ConcR (KK wgBlock WgAt stA smA rd wr mk Payload Aside2 DC0)
section
variable (P:Program) (L:WgLink) (Wg:Nat) (B:World→Prop) (Ev:Event→Prop)
def AddE (K:Goroutine→Prop)(g:Goroutine):Prop:=g.status=.running∧∃g1,(∀w,stepG P true g w=.go g1 w #[mk .enable])∧To P true B Ev K g1
def AddA (K:Goroutine→Prop)(g:Goroutine):Prop:=g.status=.running∧∀v:Nat,v<2147483647→∃g1,(∀w,WgAt L.tWg Wg w (v*KK) 0→stepG P true g w=.go g1 (w.setCell (stA Wg) (.int .u64 ((v+1)*KK))) #[rd (stA Wg),wr (stA Wg)])∧To P true B Ev (AddE P B Ev K) g1
def AddK (K:Goroutine→Prop)(g:Goroutine):Prop:=g.status=.running∧∃g1,(∀w,stepG P true g w=.go g1 w #[mk .disable])∧To P true B Ev (AddA P L Wg B Ev K) g1
end
section
variable {P:Program} {L:WgLink} {Wg:Nat} {B:World→Prop} {Ev:Event→Prop} {K:Goroutine→Prop} {b₀:Frame} {a₀:Act} {ops₀:Array Oper} {i₀:Nat} {rest₀:List Nat} {k₀:List Item} {cs:List Frame}
set_option maxRecDepth 100000 in
set_option maxHeartbeats 16000000 in
theorem add_walk [Payload] (H:WgLib P L)(hB:∀w,B w→WgLive L.tWg Wg w)(hR:Ev ⟨.mark (.read ⟨Wg,1,none⟩),false,true⟩)
  (hT:To P true B Ev K (G (b₀.at (a₀.put ((ops₀[i₀]?).bind (·.dst)) (.tuple #[])) (.inRegion ops₀ rest₀ :: k₀)) cs)) :
  To P true B Ev (AddK P L Wg B Ev K) (G ((base L.add).at ⟨#[.pointer (some ⟨Wg,0,none⟩),.int .i64 1,undef,undef,undef,undef,undef,undef,undef,undef,undef,undef,undef,undef,undef,undef,undef,undef,undef,undef,undef,undef,undef,undef,undef,undef,undef,undef,undef,undef,undef,undef,undef,undef,undef,undef,undef,undef,undef,undef,undef,undef,undef,undef,undef,undef,undef,undef,undef,undef,undef,undef,undef,undef,undef,undef,undef,undef,undef,undef,undef,undef,undef,undef,undef,undef,undef,undef,undef,undef,undef,undef,undef,undef,undef,undef,undef,undef,undef,undef,undef,undef,undef,undef,undef,undef,undef,undef,undef,undef,undef,undef,undef,undef,undef,undef,undef,undef,undef,undef,undef,undef,undef,undef,undef,undef,undef,undef,undef,undef,undef,undef,undef,undef,undef,undef,undef],[]⟩ [.code (body_add L)]) (b₀.at a₀ (.inRegion ops₀ (i₀ :: rest₀) :: k₀) :: cs)):=by
 lib_facts
 simp only[body_add,addFn,Option.getD_some]
 refine To.ctl rfl (fun _ _=>stepG_seq) ?_
 refine To.ctl rfl (fun _ _=>stepG_cond (t:=true) rfl) ?_;simp only[if_true,if_false,Bool.false_eq_true,↓reduceIte]
 refine To.ctl rfl (fun _ _=>stepG_seq) ?_
 refine To.ctl rfl (fun _ _=>stepG_seq) ?_
 refine To.ctl rfl (fun _ _=>stepG_region) ?_;simp only[List.size_toArray,List.length_cons,List.length_nil,Nat.reduceAdd,Nat.zero_add,List.range,List.range.loop]
 refine To.value _ rfl rfl (by k_ne) (fun _ _=>by go_simp<;>rfl) (fun _ _=>by first|(simp[go_sem];done)|simp[go_sem, *]) ?_;walk_nrm;try w_num
 refine To.value _ rfl rfl (by k_ne) (fun _ _=>by go_simp<;>rfl) (fun _ _=>by first|(simp[go_sem];done)|simp[go_sem, *]) ?_;walk_nrm;try w_num
 refine To.ctl rfl (fun _ _=>stepG_region_end) ?_
 refine To.ctl rfl (fun _ _=>stepG_cond (t:=false) rfl) ?_;simp only[if_true,if_false,Bool.false_eq_true,↓reduceIte]
 refine To.ctl rfl (fun _ _=>stepG_skip) ?_
 refine To.ctl rfl (fun _ _=>stepG_seq) ?_
 refine To.ctl rfl (fun _ _=>stepG_region) ?_;simp only[List.size_toArray,List.length_cons,List.length_nil,Nat.reduceAdd,Nat.zero_add,List.range,List.range.loop]
 refine To.nil ⟨rfl,_,fun w=>stepG_mark0 .disable (by simp) rfl rfl (by k_ne) rfl H.f_disable (x_disable_n L) (x_disable_b L) (x_disable_x L) (x_disable_f L),?_⟩
 walk_nrm
 refine To.ctl rfl (fun _ _=>stepG_region_end) ?_
 refine To.ctl rfl (fun _ _=>stepG_region) ?_;simp only[List.size_toArray,List.length_cons,List.length_nil,Nat.reduceAdd,Nat.zero_add,List.range,List.range.loop]
 refine To.ctl rfl (fun _ _=>stepG_defer rfl rfl (by k_ne) rfl) ?_;walk_nrm
 refine To.ctl rfl (fun _ _=>stepG_region_end) ?_
 refine To.ctl rfl (fun _ _=>stepG_seq) ?_
 refine To.ctl rfl (fun _ _=>stepG_region) ?_;simp only[List.size_toArray,List.length_cons,List.length_nil,Nat.reduceAdd,Nat.zero_add,List.range,List.range.loop]
 refine To.value _ rfl rfl (by k_ne) (fun _ _=>by go_simp<;>rfl) (fun _ _=>by first|(simp[go_sem];done)|simp[go_sem, *]) ?_;walk_nrm;try w_num
 refine To.ctl rfl (fun _ _=>stepG_region_end) ?_
 refine To.ctl rfl (fun _ _=>stepG_seq) ?_
 refine To.ctl rfl (fun _ _=>stepG_seq) ?_
 refine To.ctl rfl (fun _ _=>stepG_region) ?_;simp only[List.size_toArray,List.length_cons,List.length_nil,Nat.reduceAdd,Nat.zero_add,List.range,List.range.loop]
 refine To.ctl rfl (fun _ _=>stepG_entry_pure (.bool false) rfl rfl (by k_ne) rfl H.f_inBubble (x_inBubble_n L) (x_inBubble_b L) (x_inBubble_x L) (x_inBubble_f L)) ?_;walk_nrm
 refine To.ctl rfl (fun _ _=>stepG_region_end) ?_
 refine To.ctl rfl (fun _ _=>stepG_cond (t:=false) rfl) ?_;simp only[if_true,if_false,Bool.false_eq_true,↓reduceIte]
 refine To.ctl rfl (fun _ _=>stepG_skip) ?_
 refine To.ctl rfl (fun _ _=>stepG_seq) ?_
 refine To.ctl rfl (fun _ _=>stepG_region) ?_;simp only[List.size_toArray,List.length_cons,List.length_nil,Nat.reduceAdd,Nat.zero_add,List.range,List.range.loop]
 refine To.value _ rfl rfl (by k_ne) (fun _ _=>by go_simp<;>rfl) (fun _ _=>by first|(simp[go_sem];done)|simp[go_sem, *]) ?_;walk_nrm;try w_num
 refine To.value _ rfl rfl (by k_ne) (fun _ _=>by go_simp<;>rfl) (fun _ _=>by first|(simp[go_sem];done)|simp[go_sem, *]) ?_;walk_nrm;try w_num
 refine To.value _ rfl rfl (by k_ne) (fun _ _=>by go_simp<;>rfl) (fun _ _=>by first|(simp[go_sem];done)|simp[go_sem, *]) ?_;walk_nrm;try w_num
 refine To.value _ rfl rfl (by k_ne) (fun _ _=>by go_simp<;>rfl) (fun _ _=>by first|(simp[go_sem];done)|simp[go_sem, *]) ?_;walk_nrm;try w_num
 refine To.value _ rfl rfl (by k_ne) (fun _ _=>by go_simp<;>rfl) (fun _ _=>by first|(simp[go_sem];done)|simp[go_sem, *]) ?_;walk_nrm;try w_num
 refine To.value _ rfl rfl (by k_ne) (fun _ _=>by go_simp<;>rfl) (fun _ _=>by first|(simp[go_sem];done)|simp[go_sem, *]) ?_;walk_nrm;try w_num
 refine To.call rfl rfl (by k_ne) rfl H.f_uAdd (nm_uAdd L) rfl ?_;walk_nrmf uAddFn
 refine To.ctl rfl (fun _ _=>stepG_seq) ?_
 refine To.ctl rfl (fun _ _=>stepG_region) ?_;simp only[List.size_toArray,List.length_cons,List.length_nil,Nat.reduceAdd,Nat.zero_add,List.range,List.range.loop]
 refine To.value _ rfl rfl (by k_ne) (fun _ _=>by go_simp<;>rfl) (fun _ _=>by first|(simp[go_sem];done)|simp[go_sem, *]) ?_;walk_nrm;try w_num
 refine To.ctl rfl (fun _ _=>stepG_region_end) ?_
 refine To.ctl rfl (fun _ _=>stepG_seq) ?_
 refine To.ctl rfl (fun _ _=>stepG_region) ?_;simp only[List.size_toArray,List.length_cons,List.length_nil,Nat.reduceAdd,Nat.zero_add,List.range,List.range.loop]
 refine To.value _ rfl rfl (by k_ne) (fun _ _=>by go_simp<;>rfl) (fun _ _=>by first|(simp[go_sem];done)|simp[go_sem, *]) ?_;walk_nrm;try w_num
 refine To.value _ rfl rfl (by k_ne) (fun _ _=>by go_simp<;>rfl) (fun _ _=>by first|(simp[go_sem];done)|simp[go_sem, *]) ?_;walk_nrm;try w_num
 refine To.value _ rfl rfl (by k_ne) (fun _ _=>by go_simp<;>rfl) (fun _ _=>by first|(simp[go_sem];done)|simp[go_sem, *]) ?_;walk_nrm;try w_num
 refine To.value _ rfl rfl (by k_ne) (fun _ _=>by go_simp<;>rfl) (fun _ _=>by first|(simp[go_sem];done)|simp[go_sem, *]) ?_;walk_nrm;try w_num
 refine To.nil ⟨rfl,fun v hv=>?_⟩
 rcases Nat.eq_zero_or_pos v with rfl|hvp
 ·have e0:IntKind.u64.wrap (0+4294967296)=KK:=by decide
  have z:(((0:Nat):Int)+1)*KK=KK:=by simp
  have z0:((0:Nat):Int)*KK=0:=by simp
  rw[z,z0]
  refine⟨_,fun w hw=>(stepG_add_atomic rfl rfl (by k_ne) rfl H.f_addU64 (x_addU64_n L) (x_addU64_b L) (x_addU64_x L) .u64 (x_addU64_f L) rfl rfl hw.cellSt (hw.thaw 0)).trans (by rw[e0];rfl),?_⟩
  simp only[KK]
  walk_nrm
  refine To.value _ rfl rfl (by k_ne) (fun _ _=>by go_simp<;>rfl) (fun _ _=>by first|(simp[go_sem];done)|simp[go_sem, *]) ?_;walk_nrm;try w_num
  refine To.ctl rfl (fun _ _=>stepG_region_end) ?_
  refine To.ctl rfl (fun _ _=>stepG_ret') ?_
  refine To.leave1 rfl rfl H.f_uAdd rfl ?_;walk_nrm
  refine To.value _ rfl rfl (by k_ne) (fun _ _=>by go_simp<;>rfl) (fun _ _=>by first|(simp[go_sem];done)|simp[go_sem, *]) ?_;walk_nrm;try w_num
  refine To.ctl rfl (fun _ _=>stepG_region_end) ?_
  refine To.ctl rfl (fun _ _=>stepG_seq) ?_
  refine To.ctl rfl (fun _ _=>stepG_seq) ?_
  refine To.ctl rfl (fun _ _=>stepG_region) ?_;simp only[List.size_toArray,List.length_cons,List.length_nil,Nat.reduceAdd,Nat.zero_add,List.range,List.range.loop]
  refine To.value _ rfl rfl (by k_ne) (fun _ _=>by go_simp<;>rfl) (fun _ _=>by first|(simp[go_sem];done)|simp[go_sem, *]) ?_;walk_nrm;try w_num
  refine To.value _ rfl rfl (by k_ne) (fun _ _=>by go_simp<;>rfl) (fun _ _=>by first|(simp[go_sem];done)|simp[go_sem, *]) ?_;walk_nrm;try w_num
  refine To.value _ rfl rfl (by k_ne) (fun _ _=>by go_simp<;>rfl) (fun _ _=>by first|(simp[go_sem];done)|simp[go_sem, *]) ?_;walk_nrm;try w_num
  refine To.value _ rfl rfl (by k_ne) (fun _ _=>by go_simp<;>rfl) (fun _ _=>by first|(simp[go_sem];done)|simp[go_sem, *]) ?_;walk_nrm;try w_num
  refine To.unwanted rfl rfl ?_;walk_nrm
  refine To.unwanted rfl rfl ?_;walk_nrm
  refine To.value _ rfl rfl (by k_ne) (fun _ _=>by go_simp<;>rfl) (fun _ _=>by first|(simp[go_sem];done)|simp[go_sem, *]) ?_;walk_nrm;try w_num
  refine To.ctl rfl (fun _ _=>stepG_region_end) ?_
  refine To.ctl rfl (fun _ _=>stepG_cond (t:=false) rfl) ?_;simp only[if_true,if_false,Bool.false_eq_true,↓reduceIte]
  refine To.ctl rfl (fun _ _=>stepG_skip) ?_
  refine To.ctl rfl (fun _ _=>stepG_seq) ?_
  refine To.ctl rfl (fun _ _=>stepG_region) ?_;simp only[List.size_toArray,List.length_cons,List.length_nil,Nat.reduceAdd,Nat.zero_add,List.range,List.range.loop]
  refine To.value _ rfl rfl (by k_ne) (fun _ _=>by go_simp<;>rfl) (fun _ _=>by first|(simp[go_sem];done)|simp[go_sem, *]) ?_;walk_nrm;try w_num
  refine To.value _ rfl rfl (by k_ne) (fun _ _=>by go_simp<;>rfl) (fun _ _=>by first|(simp[go_sem];done)|simp[go_sem, *]) ?_;walk_nrm;try w_num
  refine To.value _ rfl rfl (by k_ne) (fun _ _=>by go_simp<;>rfl) (fun _ _=>by first|(simp[go_sem];done)|simp[go_sem, *]) ?_;walk_nrm;try w_num
  refine To.value _ rfl rfl (by k_ne) (fun _ _=>by go_simp<;>rfl) (fun _ _=>by first|(simp[go_sem];done)|simp[go_sem, *]) ?_;walk_nrm;try w_num
  refine To.ctl rfl (fun _ _=>stepG_region_end) ?_
  refine To.ctl rfl (fun _ _=>stepG_seq) ?_
  refine To.ctl rfl (fun _ _=>stepG_region) ?_;simp only[List.size_toArray,List.length_cons,List.length_nil,Nat.reduceAdd,Nat.zero_add,List.range,List.range.loop]
  refine To.value _ rfl rfl (by k_ne) (fun _ _=>by go_simp<;>rfl) (fun _ _=>by first|(simp[go_sem];done)|simp[go_sem, *]) ?_;walk_nrm;try w_num
  refine To.value _ rfl rfl (by k_ne) (fun _ _=>by go_simp<;>rfl) (fun _ _=>by first|(simp[go_sem];done)|simp[go_sem, *]) ?_;walk_nrm;try w_num
  refine To.value _ rfl rfl (by k_ne) (fun _ _=>by go_simp<;>rfl) (fun _ _=>by first|(simp[go_sem];done)|simp[go_sem, *]) ?_;walk_nrm;try w_num
  refine To.value _ rfl rfl (by k_ne) (fun _ _=>by go_simp<;>rfl) (fun _ _=>by first|(simp[go_sem];done)|simp[go_sem, *]) ?_;walk_nrm;try w_num
  refine To.ctl rfl (fun _ _=>stepG_region_end) ?_
  refine To.ctl rfl (fun _ _=>stepG_seq) ?_
  refine To.ctl rfl (fun _ _=>stepG_seq) ?_
  refine To.ctl rfl (fun _ _=>stepG_region) ?_;simp only[List.size_toArray,List.length_cons,List.length_nil,Nat.reduceAdd,Nat.zero_add,List.range,List.range.loop]
  refine To.value _ rfl rfl (by k_ne) (fun _ _=>by go_simp<;>rfl) (fun _ _=>by first|(simp[go_sem];done)|simp[go_sem, *]) ?_;walk_nrm;try w_num
  refine To.value _ rfl rfl (by k_ne) (fun _ _=>by go_simp<;>rfl) (fun _ _=>by first|(simp[go_sem];done)|simp[go_sem, *]) ?_;walk_nrm;try w_num
  refine To.value _ rfl rfl (by k_ne) (fun _ _=>by go_simp<;>rfl) (fun _ _=>by first|(simp[go_sem];done)|simp[go_sem, *]) ?_;walk_nrm;try w_num
  refine To.value _ rfl rfl (by k_ne) (fun _ _=>by go_simp<;>rfl) (fun _ _=>by first|(simp[go_sem];done)|simp[go_sem, *]) ?_;walk_nrm;try w_num
  refine To.value _ rfl rfl (by k_ne) (fun _ _=>by go_simp<;>rfl) (fun _ _=>by first|(simp[go_sem];done)|simp[go_sem, *]) ?_;walk_nrm;try w_num
  refine To.value _ rfl rfl (by k_ne) (fun _ _=>by go_simp<;>rfl) (fun _ _=>by first|(simp[go_sem];done)|simp[go_sem, *]) ?_;walk_nrm;try w_num
  refine To.value _ rfl rfl (by k_ne) (fun _ _=>by go_simp<;>rfl) (fun _ _=>by first|(simp[go_sem];done)|simp[go_sem, *]) ?_;walk_nrm;try w_num
  refine To.value _ rfl rfl (by k_ne) (fun _ _=>by go_simp<;>rfl) (fun _ _=>by first|(simp[go_sem];done)|simp[go_sem, *]) ?_;walk_nrm;try w_num
  refine To.value _ rfl rfl (by k_ne) (fun _ _=>by go_simp<;>rfl) (fun _ _=>by first|(simp[go_sem];done)|simp[go_sem, *]) ?_;walk_nrm;try w_num
  refine To.value _ rfl rfl (by k_ne) (fun _ _=>by go_simp<;>rfl) (fun _ _=>by first|(simp[go_sem];done)|simp[go_sem, *]) ?_;walk_nrm;try w_num
  refine To.ctl rfl (fun _ _=>stepG_region_end) ?_
  refine To.ctl rfl (fun _ _=>stepG_cond (t:=true) rfl) ?_;simp only[if_true,if_false,Bool.false_eq_true,↓reduceIte]
  refine To.ctl rfl (fun _ _=>stepG_region) ?_;simp only[List.size_toArray,List.length_cons,List.length_nil,Nat.reduceAdd,Nat.zero_add,List.range,List.range.loop]
  refine To.value _ rfl rfl (by k_ne) (fun _ _=>by go_simp<;>rfl) (fun _ _=>by first|(simp[go_sem];done)|simp[go_sem, *]) ?_;walk_nrm;try w_num
  refine To.value _ rfl rfl (by k_ne) (fun _ _=>by go_simp<;>rfl) (fun _ _=>by first|(simp[go_sem];done)|simp[go_sem, *]) ?_;walk_nrm;try w_num
  refine To.value _ rfl rfl (by k_ne) (fun _ _=>by go_simp<;>rfl) (fun _ _=>by first|(simp[go_sem];done)|simp[go_sem, *]) ?_;walk_nrm;try w_num
  refine To.value _ rfl rfl (by k_ne) (fun w hb=>by have hcv:=run_convert_to_unsafe (P:=P) H.underlying_tPU32 H.underlying_tUP H.room_tU32 (WgLive.cell1 (hB w hb)).choose_spec;go_simp<;>rfl) (fun w hb=>by have hce:=fun es=>events_convert_to_unsafe (P:=P) H.underlying_tPU32 H.underlying_tUP H.room_tU32 (WgLive.cell1 (hB w hb)).choose_spec es;simp[go_sem,hce]) ?_;walk_nrm
  refine To.cons rfl (by intro e he;rw[Array.mem_singleton] at he;subst he;exact hR) (fun w _=>stepG_markAt .read (by simp) rfl rfl (by k_ne) rfl H.f_raceRead (x_raceRead_n L) (x_raceRead_b L) (x_raceRead_x L) (x_raceRead_f L) (ad:=⟨Wg,1,none⟩) (by simp[Act.eval])) ?_
  walk_nrm
  refine To.ctl rfl (fun _ _=>stepG_region_end) ?_
  refine To.ctl rfl (fun _ _=>stepG_seq) ?_
  refine To.ctl rfl (fun _ _=>stepG_seq) ?_
  refine To.ctl rfl (fun _ _=>stepG_region) ?_;simp only[List.size_toArray,List.length_cons,List.length_nil,Nat.reduceAdd,Nat.zero_add,List.range,List.range.loop]
  refine To.value _ rfl rfl (by k_ne) (fun _ _=>by go_simp<;>rfl) (fun _ _=>by first|(simp[go_sem];done)|simp[go_sem, *]) ?_;walk_nrm;try w_num
  refine To.value _ rfl rfl (by k_ne) (fun _ _=>by go_simp<;>rfl) (fun _ _=>by first|(simp[go_sem];done)|simp[go_sem, *]) ?_;walk_nrm;try w_num
  refine To.ctl rfl (fun _ _=>stepG_region_end) ?_
  refine To.ctl rfl (fun _ _=>stepG_cond (t:=false) rfl) ?_;simp only[if_true,if_false,Bool.false_eq_true,↓reduceIte]
  refine To.ctl rfl (fun _ _=>stepG_skip) ?_
  refine To.ctl rfl (fun _ _=>stepG_seq) ?_
  refine To.ctl rfl (fun _ _=>stepG_seq) ?_
  refine To.ctl rfl (fun _ _=>stepG_region) ?_;simp only[List.size_toArray,List.length_cons,List.length_nil,Nat.reduceAdd,Nat.zero_add,List.range,List.range.loop]
  refine To.value _ rfl rfl (by k_ne) (fun _ _=>by go_simp<;>rfl) (fun _ _=>by first|(simp[go_sem];done)|simp[go_sem, *]) ?_;walk_nrm;try w_num
  refine To.value _ rfl rfl (by k_ne) (fun _ _=>by go_simp<;>rfl) (fun _ _=>by first|(simp[go_sem];done)|simp[go_sem, *]) ?_;walk_nrm;try w_num
  refine To.value _ rfl rfl (by k_ne) (fun _ _=>by go_simp<;>rfl) (fun _ _=>by first|(simp[go_sem];done)|simp[go_sem, *]) ?_;walk_nrm;try w_num
  refine To.unwanted rfl rfl ?_;walk_nrm
  refine To.unwanted rfl rfl ?_;walk_nrm
  refine To.value _ rfl rfl (by k_ne) (fun _ _=>by go_simp<;>rfl) (fun _ _=>by first|(simp[go_sem];done)|simp[go_sem, *]) ?_;walk_nrm;try w_num
  refine To.value _ rfl rfl (by k_ne) (fun _ _=>by go_simp<;>rfl) (fun _ _=>by first|(simp[go_sem];done)|simp[go_sem, *]) ?_;walk_nrm;try w_num
  refine To.unwanted rfl rfl ?_;walk_nrm
  refine To.unwanted rfl rfl ?_;walk_nrm
  refine To.unwanted rfl rfl ?_;walk_nrm
  refine To.unwanted rfl rfl ?_;walk_nrm
  refine To.value _ rfl rfl (by k_ne) (fun _ _=>by go_simp<;>rfl) (fun _ _=>by first|(simp[go_sem];done)|simp[go_sem, *]) ?_;walk_nrm;try w_num
  refine To.ctl rfl (fun _ _=>stepG_region_end) ?_
  refine To.ctl rfl (fun _ _=>stepG_cond (t:=false) rfl) ?_;simp only[if_true,if_false,Bool.false_eq_true,↓reduceIte]
  refine To.ctl rfl (fun _ _=>stepG_skip) ?_
  refine To.ctl rfl (fun _ _=>stepG_seq) ?_
  refine To.ctl rfl (fun _ _=>stepG_seq) ?_
  refine To.ctl rfl (fun _ _=>stepG_region) ?_;simp only[List.size_toArray,List.length_cons,List.length_nil,Nat.reduceAdd,Nat.zero_add,List.range,List.range.loop]
  refine To.value _ rfl rfl (by k_ne) (fun _ _=>by go_simp<;>rfl) (fun _ _=>by first|(simp[go_sem];done)|simp[go_sem, *]) ?_;walk_nrm;try w_num
  refine To.value _ rfl rfl (by k_ne) (fun _ _=>by go_simp<;>rfl) (fun _ _=>by first|(simp[go_sem];done)|simp[go_sem, *]) ?_;walk_nrm;try w_num
  refine To.value _ rfl rfl (by k_ne) (fun _ _=>by go_simp<;>rfl) (fun _ _=>by first|(simp[go_sem];done)|simp[go_sem, *]) ?_;walk_nrm;try w_num
  refine To.unwanted rfl rfl ?_;walk_nrm
  refine To.unwanted rfl rfl ?_;walk_nrm
  refine To.value _ rfl rfl (by k_ne) (fun _ _=>by go_simp<;>rfl) (fun _ _=>by first|(simp[go_sem];done)|simp[go_sem, *]) ?_;walk_nrm;try w_num
  refine To.ctl rfl (fun _ _=>stepG_region_end) ?_
  refine To.ctl rfl (fun _ _=>stepG_cond (t:=true) rfl) ?_;simp only[if_true,if_false,Bool.false_eq_true,↓reduceIte]
  refine To.ctl rfl (fun _ _=>stepG_ret') ?_
  refine To.nil ⟨rfl,_,fun w=>stepG_unwind_entry (v:=.tuple #[]) (evs:=#[mk .enable]) rfl H.f_enable (x_enable_n L) (x_enable_b L) (x_enable_x L) (x_enable_f L) (by simp[Extern.Race.none_]) (by simp[mk]) (by simp[mk]),?_⟩
  refine To.leave0 rfl rfl H.f_add rfl ?_;walk_nrm
  exact hT
 ·obtain⟨V,hV⟩:∃V:Int,V=(v:Int)+1:=⟨_,rfl⟩
  obtain⟨S,hS⟩:∃S:Int,S=V*KK:=⟨_,rfl⟩
  have eS:IntKind.u64.wrap ((v:Int)*KK+4294967296)=S:=by rw[IntKind.wrap_u64,hS,hV];simp only[KK];omega
  rw[←hV,←hS]
  have a1:S / 4294967296=V:=by rw[hS];simp only[KK];omega
  have b1:bits .and .u64 S 2147483648=0:=by rw[hS,hV];have:=st_flag (v+1) 0 (by omega) (by omega);simpa [KK] using this
  have b2:bits .and .u64 S 2147483647=0:=by rw[hS,hV];have:=st_waiters (v+1) 0 (by omega) (by omega);simpa [KK] using this
  have c1:IntKind.i32.wrap V=V:=by rw[IntKind.wrap_i32];omega
  have hV1:1<V:=by omega
  have hV2:V<2147483648:=by omega
  have q1:(V==1)=false:=by simp;omega
  have q2:decide (V=1)=false:=decide_eq_false (by omega)
  have q3:decide (V<0)=false:=decide_eq_false (by omega)
  have q4:decide (0<V)=true:=decide_eq_true (by omega)
  have q5:(V==0)=false:=by simp;omega
  have q6:decide (V=0)=false:=decide_eq_false (by omega)
  refine⟨_,fun w hw=>(stepG_add_atomic rfl rfl (by k_ne) rfl H.f_addU64 (x_addU64_n L) (x_addU64_b L) (x_addU64_x L) .u64 (x_addU64_f L) rfl rfl hw.cellSt (hw.thaw 0)).trans (by rw[eS];rfl),?_⟩
  clear hS hV eS
  walk_nrm
  refine To.value _ rfl rfl (by k_ne) (fun _ _=>by go_simp<;>rfl) (fun _ _=>by first|(simp[go_sem];done)|simp[go_sem, *]) ?_;walk_nrm;try w_num
  refine To.ctl rfl (fun _ _=>stepG_region_end) ?_
  refine To.ctl rfl (fun _ _=>stepG_ret') ?_
  refine To.leave1 rfl rfl H.f_uAdd rfl ?_;walk_nrm
  refine To.value _ rfl rfl (by k_ne) (fun _ _=>by go_simp<;>rfl) (fun _ _=>by first|(simp[go_sem];done)|simp[go_sem, *]) ?_;walk_nrm;try w_num
  refine To.ctl rfl (fun _ _=>stepG_region_end) ?_
  refine To.ctl rfl (fun _ _=>stepG_seq) ?_
  refine To.ctl rfl (fun _ _=>stepG_seq) ?_
  refine To.ctl rfl (fun _ _=>stepG_region) ?_;simp only[List.size_toArray,List.length_cons,List.length_nil,Nat.reduceAdd,Nat.zero_add,List.range,List.range.loop]
  refine To.value _ rfl rfl (by k_ne) (fun _ _=>by go_simp<;>rfl) (fun _ _=>by first|(simp[go_sem];done)|simp[go_sem, *]) ?_;walk_nrm;try w_num
  refine To.value _ rfl rfl (by k_ne) (fun _ _=>by go_simp<;>rfl) (fun _ _=>by first|(simp[go_sem];done)|simp[go_sem, *]) ?_;walk_nrm;try w_num
  refine To.value _ rfl rfl (by k_ne) (fun _ _=>by go_simp<;>rfl) (fun _ _=>by first|(simp[go_sem];done)|simp[go_sem, *]) ?_;walk_nrm;try w_num
  refine To.value _ rfl rfl (by k_ne) (fun _ _=>by go_simp<;>rfl) (fun _ _=>by first|(simp[go_sem];done)|simp[go_sem, *]) ?_;walk_nrm;try w_num
  refine To.unwanted rfl rfl ?_;walk_nrm
  refine To.unwanted rfl rfl ?_;walk_nrm
  refine To.value _ rfl rfl (by k_ne) (fun _ _=>by go_simp<;>rfl) (fun _ _=>by first|(simp[go_sem];done)|simp[go_sem, *]) ?_;walk_nrm;try w_num
  refine To.ctl rfl (fun _ _=>stepG_region_end) ?_
  refine To.ctl rfl (fun _ _=>stepG_cond (t:=false) (by first|rfl|(simp[Act.eval];omega))) ?_;simp only[if_true,if_false,Bool.false_eq_true,↓reduceIte]
  refine To.ctl rfl (fun _ _=>stepG_skip) ?_
  refine To.ctl rfl (fun _ _=>stepG_seq) ?_
  refine To.ctl rfl (fun _ _=>stepG_region) ?_;simp only[List.size_toArray,List.length_cons,List.length_nil,Nat.reduceAdd,Nat.zero_add,List.range,List.range.loop]
  refine To.value _ rfl rfl (by k_ne) (fun _ _=>by go_simp<;>rfl) (fun _ _=>by first|(simp[go_sem];done)|simp[go_sem, *]) ?_;walk_nrm;try w_num
  refine To.value _ rfl rfl (by k_ne) (fun _ _=>by go_simp<;>rfl) (fun _ _=>by first|(simp[go_sem];done)|simp[go_sem, *]) ?_;walk_nrm;try w_num
  refine To.value _ rfl rfl (by k_ne) (fun _ _=>by go_simp<;>rfl) (fun _ _=>by first|(simp[go_sem];done)|simp[go_sem, *]) ?_;walk_nrm;try w_num
  refine To.value _ rfl rfl (by k_ne) (fun _ _=>by go_simp<;>rfl) (fun _ _=>by first|(simp[go_sem];done)|simp[go_sem, *]) ?_;walk_nrm;try w_num
  refine To.ctl rfl (fun _ _=>stepG_region_end) ?_
  refine To.ctl rfl (fun _ _=>stepG_seq) ?_
  refine To.ctl rfl (fun _ _=>stepG_region) ?_;simp only[List.size_toArray,List.length_cons,List.length_nil,Nat.reduceAdd,Nat.zero_add,List.range,List.range.loop]
  refine To.value _ rfl rfl (by k_ne) (fun _ _=>by go_simp<;>rfl) (fun _ _=>by first|(simp[go_sem];done)|simp[go_sem, *]) ?_;walk_nrm;try w_num
  refine To.value _ rfl rfl (by k_ne) (fun _ _=>by go_simp<;>rfl) (fun _ _=>by first|(simp[go_sem];done)|simp[go_sem, *]) ?_;walk_nrm;try w_num
  refine To.value _ rfl rfl (by k_ne) (fun _ _=>by go_simp<;>rfl) (fun _ _=>by first|(simp[go_sem];done)|simp[go_sem, *]) ?_;walk_nrm;try w_num
  refine To.value _ rfl rfl (by k_ne) (fun _ _=>by go_simp<;>rfl) (fun _ _=>by first|(simp[go_sem];done)|simp[go_sem, *]) ?_;walk_nrm;try w_num
  refine To.ctl rfl (fun _ _=>stepG_region_end) ?_
  refine To.ctl rfl (fun _ _=>stepG_seq) ?_
  refine To.ctl rfl (fun _ _=>stepG_seq) ?_
  refine To.ctl rfl (fun _ _=>stepG_region) ?_;simp only[List.size_toArray,List.length_cons,List.length_nil,Nat.reduceAdd,Nat.zero_add,List.range,List.range.loop]
  refine To.value _ rfl rfl (by k_ne) (fun _ _=>by go_simp<;>rfl) (fun _ _=>by first|(simp[go_sem];done)|simp[go_sem, *]) ?_;walk_nrm;try w_num
  refine To.value _ rfl rfl (by k_ne) (fun _ _=>by go_simp<;>rfl) (fun _ _=>by first|(simp[go_sem];done)|simp[go_sem, *]) ?_;walk_nrm;try w_num
  refine To.value _ rfl rfl (by k_ne) (fun _ _=>by go_simp<;>rfl) (fun _ _=>by first|(simp[go_sem];done)|simp[go_sem, *]) ?_;walk_nrm;try w_num
  refine To.value _ rfl rfl (by k_ne) (fun _ _=>by go_simp<;>rfl) (fun _ _=>by first|(simp[go_sem];done)|simp[go_sem, *]) ?_;walk_nrm;try w_num
  refine To.value _ rfl rfl (by k_ne) (fun _ _=>by go_simp<;>rfl) (fun _ _=>by first|(simp[go_sem];done)|simp[go_sem, *]) ?_;walk_nrm;try w_num
  refine To.value _ rfl rfl (by k_ne) (fun _ _=>by go_simp<;>rfl) (fun _ _=>by first|(simp[go_sem];done)|simp[go_sem, *]) ?_;walk_nrm;try w_num
  refine To.value _ rfl rfl (by k_ne) (fun _ _=>by go_simp<;>rfl) (fun _ _=>by first|(simp[go_sem];done)|simp[go_sem, *]) ?_;walk_nrm;try w_num
  refine To.value _ rfl rfl (by k_ne) (fun _ _=>by go_simp<;>rfl) (fun _ _=>by first|(simp[go_sem];done)|simp[go_sem, *]) ?_;walk_nrm;try w_num
  refine To.value _ rfl rfl (by k_ne) (fun _ _=>by go_simp<;>rfl) (fun _ _=>by first|(simp[go_sem];done)|simp[go_sem, *]) ?_;walk_nrm;try w_num
  refine To.value _ rfl rfl (by k_ne) (fun _ _=>by go_simp<;>rfl) (fun _ _=>by first|(simp[go_sem];done)|simp[go_sem, *]) ?_;walk_nrm;try w_num
  refine To.ctl rfl (fun _ _=>stepG_region_end) ?_
  refine To.ctl rfl (fun _ _=>stepG_cond (t:=false) (by first|rfl|(simp[Act.eval];omega))) ?_;simp only[if_true,if_false,Bool.false_eq_true,↓reduceIte]
  refine To.ctl rfl (fun _ _=>stepG_skip) ?_
  refine To.ctl rfl (fun _ _=>stepG_seq) ?_
  refine To.ctl rfl (fun _ _=>stepG_seq) ?_
  refine To.ctl rfl (fun _ _=>stepG_region) ?_;simp only[List.size_toArray,List.length_cons,List.length_nil,Nat.reduceAdd,Nat.zero_add,List.range,List.range.loop]
  refine To.value _ rfl rfl (by k_ne) (fun _ _=>by go_simp<;>rfl) (fun _ _=>by first|(simp[go_sem];done)|simp[go_sem, *]) ?_;walk_nrm;try w_num
  refine To.value _ rfl rfl (by k_ne) (fun _ _=>by go_simp<;>rfl) (fun _ _=>by first|(simp[go_sem];done)|simp[go_sem, *]) ?_;walk_nrm;try w_num
  refine To.ctl rfl (fun _ _=>stepG_region_end) ?_
  refine To.ctl rfl (fun _ _=>stepG_cond (t:=false) (by first|rfl|(simp[Act.eval];omega))) ?_;simp only[if_true,if_false,Bool.false_eq_true,↓reduceIte]
  refine To.ctl rfl (fun _ _=>stepG_skip) ?_
  refine To.ctl rfl (fun _ _=>stepG_seq) ?_
  refine To.ctl rfl (fun _ _=>stepG_seq) ?_
  refine To.ctl rfl (fun _ _=>stepG_region) ?_;simp only[List.size_toArray,List.length_cons,List.length_nil,Nat.reduceAdd,Nat.zero_add,List.range,List.range.loop]
  refine To.value _ rfl rfl (by k_ne) (fun _ _=>by go_simp<;>rfl) (fun _ _=>by first|(simp[go_sem];done)|simp[go_sem, *]) ?_;walk_nrm;try w_num
  refine To.value _ rfl rfl (by k_ne) (fun _ _=>by go_simp<;>rfl) (fun _ _=>by first|(simp[go_sem];done)|simp[go_sem, *]) ?_;walk_nrm;try w_num
  refine To.value _ rfl rfl (by k_ne) (fun _ _=>by go_simp<;>rfl) (fun _ _=>by first|(simp[go_sem];done)|simp[go_sem, *]) ?_;walk_nrm;try w_num
  refine To.unwanted rfl rfl ?_;walk_nrm
  refine To.unwanted rfl rfl ?_;walk_nrm
  refine To.value _ rfl rfl (by k_ne) (fun _ _=>by go_simp<;>rfl) (fun _ _=>by first|(simp[go_sem];done)|simp[go_sem, *]) ?_;walk_nrm;try w_num
  refine To.value _ rfl rfl (by k_ne) (fun _ _=>by go_simp<;>rfl) (fun _ _=>by first|(simp[go_sem];done)|simp[go_sem, *]) ?_;walk_nrm;try w_num
  refine To.unwanted rfl rfl ?_;walk_nrm
  refine To.unwanted rfl rfl ?_;walk_nrm
  refine To.unwanted rfl rfl ?_;walk_nrm
  refine To.unwanted rfl rfl ?_;walk_nrm
  refine To.value _ rfl rfl (by k_ne) (fun _ _=>by go_simp<;>rfl) (fun _ _=>by first|(simp[go_sem];done)|simp[go_sem, *]) ?_;walk_nrm;try w_num
  refine To.ctl rfl (fun _ _=>stepG_region_end) ?_
  refine To.ctl rfl (fun _ _=>stepG_cond (t:=false) (by first|rfl|(simp[Act.eval];omega))) ?_;simp only[if_true,if_false,Bool.false_eq_true,↓reduceIte]
  refine To.ctl rfl (fun _ _=>stepG_skip) ?_
  refine To.ctl rfl (fun _ _=>stepG_seq) ?_
  refine To.ctl rfl (fun _ _=>stepG_seq) ?_
  refine To.ctl rfl (fun _ _=>stepG_region) ?_;simp only[List.size_toArray,List.length_cons,List.length_nil,Nat.reduceAdd,Nat.zero_add,List.range,List.range.loop]
  refine To.value _ rfl rfl (by k_ne) (fun _ _=>by go_simp<;>rfl) (fun _ _=>by first|(simp[go_sem];done)|simp[go_sem, *]) ?_;walk_nrm;try w_num
  refine To.value _ rfl rfl (by k_ne) (fun _ _=>by go_simp<;>rfl) (fun _ _=>by first|(simp[go_sem];done)|simp[go_sem, *]) ?_;walk_nrm;try w_num
  refine To.value _ rfl rfl (by k_ne) (fun _ _=>by go_simp<;>rfl) (fun _ _=>by first|(simp[go_sem];done)|simp[go_sem, *]) ?_;walk_nrm;try w_num
  refine To.unwanted rfl rfl ?_;walk_nrm
  refine To.unwanted rfl rfl ?_;walk_nrm
  refine To.value _ rfl rfl (by k_ne) (fun _ _=>by go_simp<;>rfl) (fun _ _=>by first|(simp[go_sem];done)|simp[go_sem, *]) ?_;walk_nrm;try w_num
  refine To.ctl rfl (fun _ _=>stepG_region_end) ?_
  refine To.ctl rfl (fun _ _=>stepG_cond (t:=true) (by first|rfl|(simp[Act.eval];omega))) ?_;simp only[if_true,if_false,Bool.false_eq_true,↓reduceIte]
  refine To.ctl rfl (fun _ _=>stepG_ret') ?_
  refine To.nil ⟨rfl,_,fun w=>stepG_unwind_entry (v:=.tuple #[]) (evs:=#[mk .enable]) rfl H.f_enable (x_enable_n L) (x_enable_b L) (x_enable_x L) (x_enable_f L) (by simp[Extern.Race.none_]) (by simp[mk]) (by simp[mk]),?_⟩
  refine To.leave0 rfl rfl H.f_add rfl ?_;walk_nrm
  exact hT
end
end Go.Proofs.YtjeicikflkjacaaGreatDoor.Ms
