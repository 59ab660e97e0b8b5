/- SideBuckets: its frames, up to the call of side.Buckets. -/
import Derived.Test.YtjeicikflkjacaaGreatDoorM49
set_option linter.unusedSimpArgs false
set_option linter.unusedVariables false
namespace Go.Proofs.YtjeicikflkjacaaGreatDoor.Sh
open Go Go.Conc Go.Conc.Lib Go.RowKit Go.ConcN
open Ms Po
open Par (Fm Gr on stopper LocIn)
noncomputable def opsA4:Array Oper:=match Tryz.f4.body.getD .skip with|.seq _ (.seq (.region _ o _) _)=>o|_=>#[]
noncomputable def restA4:Code:=match Tryz.f4.body.getD .skip with|.seq _ (.seq _ c)=>c|_=>.skip
noncomputable def cutA4 (e:Code):Code:=match restA4 with|.seq a _=>.seq a e|_=>.skip
noncomputable def restB4:Code:=match restA4 with|.seq _ c=>c|_=>.skip
noncomputable def opsB4:Array Oper:=match restB4 with|.seq (.region _ o _) _=>o|_=>#[]
noncomputable def restC4:Code:=match restB4 with|.seq _ c=>c|_=>.skip
noncomputable abbrev S4 (cs:List Frame) (t:Array Value) (k:List Item):Goroutine:=G ((base 4).at ⟨t,[]⟩ k) cs
noncomputable def tA0 (p:Option Addr)(N c:Nat)(n wk:Int):Array Value:=#[.slice p N c,.int .i64 n,.int .i64 wk,undef,undef,undef,undef,undef,undef,undef,undef,undef,undef,undef,undef,undef,undef,undef,undef,undef,undef,undef,undef,undef,undef,undef,undef,undef,undef,undef,undef,undef,undef,undef,undef,undef,undef,undef,undef,undef,undef,undef,undef,undef,undef,undef,undef,undef,undef,undef,undef,undef,undef,undef,undef,undef,undef,undef,undef,undef,undef,undef,undef,undef,undef,undef,undef,undef,undef,undef,undef,undef,undef,undef,undef,undef,undef,undef,undef,undef,undef,undef,undef,undef,undef,undef,undef,undef,undef,undef,undef,undef,undef,undef,undef,undef,undef,undef,undef,undef,undef,undef,undef,undef,undef,undef,undef,undef,undef,undef,undef,undef,undef]
noncomputable def tA1 (p:Option Addr)(N c:Nat)(n wk:Int):Array Value:=#[.slice p N c,.int .i64 n,.int .i64 wk,undef,undef,undef,.bool false,undef,undef,undef,undef,undef,undef,undef,undef,undef,undef,undef,undef,undef,undef,undef,undef,undef,undef,undef,undef,undef,undef,undef,undef,undef,undef,undef,undef,undef,undef,undef,undef,undef,undef,undef,undef,undef,undef,undef,undef,undef,undef,undef,undef,undef,undef,undef,undef,undef,undef,undef,undef,undef,undef,undef,undef,undef,undef,undef,undef,undef,undef,undef,undef,undef,undef,undef,undef,undef,undef,undef,undef,undef,undef,undef,undef,undef,undef,undef,undef,undef,undef,undef,undef,undef,undef,undef,undef,undef,undef,undef,undef,undef,undef,undef,undef,undef,undef,undef,undef,undef,undef,undef,undef,undef,undef]
noncomputable def tA2 (p:Option Addr)(N c:Nat)(n wk:Int):Array Value:=#[.slice p N c,.int .i64 n,.int .i64 wk,undef,undef,undef,.bool false,undef,undef,undef,undef,undef,undef,undef,undef,undef,.bool true,undef,undef,undef,undef,undef,undef,undef,undef,undef,undef,undef,undef,undef,undef,undef,undef,undef,undef,undef,undef,undef,undef,undef,undef,undef,undef,undef,undef,undef,undef,undef,undef,undef,undef,undef,undef,undef,undef,undef,undef,undef,undef,undef,undef,undef,undef,undef,undef,undef,undef,undef,undef,undef,undef,undef,undef,undef,undef,undef,undef,undef,undef,undef,undef,undef,undef,undef,undef,undef,undef,undef,undef,undef,undef,undef,undef,undef,undef,undef,undef,undef,undef,undef,undef,undef,undef,undef,undef,undef,undef,undef,undef,undef,undef,undef,undef]
noncomputable def tA3 (p:Option Addr)(N c:Nat)(n wk:Int):Array Value:=#[.slice p N c,.int .i64 n,.int .i64 wk,undef,undef,undef,.bool false,.bool true,undef,undef,undef,undef,undef,undef,undef,undef,.bool true,undef,undef,undef,undef,undef,undef,undef,undef,undef,undef,undef,undef,undef,undef,undef,undef,undef,undef,undef,undef,undef,undef,undef,undef,undef,undef,undef,undef,undef,undef,undef,undef,undef,undef,undef,undef,undef,undef,undef,undef,undef,undef,undef,undef,undef,undef,undef,undef,undef,undef,undef,undef,undef,undef,undef,undef,undef,undef,undef,undef,undef,undef,undef,undef,undef,undef,undef,undef,undef,undef,undef,undef,undef,undef,undef,undef,undef,undef,undef,undef,undef,undef,undef,undef,undef,undef,undef,undef,undef,undef,undef,undef,undef,undef,undef,undef]
noncomputable def tA4 (p:Option Addr)(N c:Nat)(n wk:Int):Array Value:=#[.slice p N c,.int .i64 n,.int .i64 wk,undef,undef,undef,.bool false,.bool true,undef,undef,undef,undef,undef,undef,undef,undef,.bool true,.bool true,.bool false,.bool false,.slice p N c,.int .i64 (N:Nat),.bool false,.bool false,undef,undef,undef,undef,undef,undef,undef,undef,undef,undef,undef,undef,undef,undef,undef,undef,undef,undef,undef,undef,undef,undef,undef,undef,undef,undef,undef,undef,undef,undef,undef,undef,undef,undef,undef,undef,undef,undef,undef,undef,undef,undef,undef,undef,undef,undef,undef,undef,undef,undef,undef,undef,undef,undef,undef,undef,undef,undef,undef,undef,undef,undef,undef,undef,undef,undef,undef,undef,undef,undef,undef,undef,undef,undef,undef,undef,undef,undef,undef,undef,undef,undef,undef,undef,undef,undef,undef,undef,undef]
noncomputable def tA5 (p:Option Addr)(N c:Nat)(n wk:Int):Array Value:=#[.slice p N c,.int .i64 n,.int .i64 wk,undef,undef,undef,.bool false,.bool true,undef,undef,undef,undef,undef,undef,undef,undef,.bool true,.bool true,.bool false,.bool false,.slice p N c,.int .i64 (N:Nat),.bool false,.bool false,undef,undef,.slice p N c,undef,undef,undef,undef,undef,undef,undef,undef,undef,undef,undef,undef,undef,undef,undef,undef,undef,undef,undef,undef,undef,undef,undef,undef,undef,undef,undef,undef,undef,undef,undef,undef,undef,undef,undef,undef,undef,undef,undef,undef,undef,undef,undef,undef,undef,undef,undef,undef,undef,undef,undef,undef,undef,undef,undef,undef,undef,undef,undef,undef,undef,undef,undef,undef,undef,undef,undef,undef,undef,undef,undef,undef,undef,undef,undef,undef,undef,undef,undef,undef,undef,undef,undef,undef,undef,undef]
noncomputable def tA6 (p:Option Addr)(N c:Nat)(n wk:Int)(kv:Value):Array Value:=#[.slice p N c,.int .i64 n,.int .i64 wk,undef,undef,undef,.bool false,.bool true,undef,undef,undef,undef,undef,undef,undef,undef,.bool true,.bool true,.bool false,.bool false,.slice p N c,.int .i64 (N:Nat),.bool false,.bool false,undef,undef,.slice p N c,kv,undef,undef,undef,undef,undef,undef,undef,undef,undef,undef,undef,undef,undef,undef,undef,undef,undef,undef,undef,undef,undef,undef,undef,undef,undef,undef,undef,undef,undef,undef,undef,undef,undef,undef,undef,undef,undef,undef,undef,undef,undef,undef,undef,undef,undef,undef,undef,undef,undef,undef,undef,undef,undef,undef,undef,undef,undef,undef,undef,undef,undef,undef,undef,undef,undef,undef,undef,undef,undef,undef,undef,undef,undef,undef,undef,undef,undef,undef,undef,undef,undef,undef,undef,undef,undef]
noncomputable def tA7 (p:Option Addr)(N c:Nat)(n wk:Int)(kv:Value):Array Value:=#[.slice p N c,.int .i64 n,.int .i64 wk,undef,undef,undef,.bool false,.bool true,undef,undef,undef,undef,undef,undef,undef,undef,.bool true,.bool true,.bool false,.bool false,.slice p N c,.int .i64 (N:Nat),.bool false,.bool false,undef,undef,.slice p N c,kv,.int .i64 n,.int .i64 wk,undef,undef,undef,undef,undef,undef,undef,undef,undef,undef,undef,undef,undef,undef,undef,undef,undef,undef,undef,undef,undef,undef,undef,undef,undef,undef,undef,undef,undef,undef,undef,undef,undef,undef,undef,undef,undef,undef,undef,undef,undef,undef,undef,undef,undef,undef,undef,undef,undef,undef,undef,undef,undef,undef,undef,undef,undef,undef,undef,undef,undef,undef,undef,undef,undef,undef,undef,undef,undef,undef,undef,undef,undef,undef,undef,undef,undef,undef,undef,undef,undef,undef,undef]
noncomputable def tA8 (p:Option Addr)(N c:Nat)(n wk:Int)(kv u:Value):Array Value:=#[.slice p N c,.int .i64 n,.int .i64 wk,undef,undef,undef,.bool false,.bool true,undef,undef,undef,undef,undef,undef,undef,undef,.bool true,.bool true,.bool false,.bool false,.slice p N c,.int .i64 (N:Nat),.bool false,.bool false,undef,undef,.slice p N c,kv,.int .i64 n,.int .i64 wk,u,undef,undef,undef,undef,undef,undef,undef,undef,undef,undef,undef,undef,undef,undef,undef,undef,undef,undef,undef,undef,undef,undef,undef,undef,undef,undef,undef,undef,undef,undef,undef,undef,undef,undef,undef,undef,undef,undef,undef,undef,undef,undef,undef,undef,undef,undef,undef,undef,undef,undef,undef,undef,undef,undef,undef,undef,undef,undef,undef,undef,undef,undef,undef,undef,undef,undef,undef,undef,undef,undef,undef,undef,undef,undef,undef,undef,undef,undef,undef,undef,undef,undef]
theorem rep4 (p:Option Addr)(N c:Nat)(n wk:Int):(#[.slice p N c,.int .i64 n,.int .i64 wk]++Array.replicate 110 undef:Array Value)=tA0 p N c n wk:=by
 unfold tA0
 rw[←Array.toList_inj]
 simp[List.replicate]
theorem enter4 (p:Option Addr)(N c:Nat)(n wk:Int):Frame.enter PP 4 #[.slice p N c,.int .i64 n,.int .i64 wk] .normal=Fm 4 (tA0 p N c n wk) [.code (Tryz.f4.body.getD .skip)] .run:=by
 have h1:PP.funcs[4]?=some Tryz.f4:=Tryz.func4
 have h2:Tryz.f4.ntmps=113:=by kernel_rfl
 have h3:Tryz.f4.body=some (Tryz.f4.body.getD .skip):=by kernel_rfl
 rw[←rep4]
 generalize hb:Tryz.f4.body.getD .skip=bd at h3
 unfold Frame.enter
 rw[h1]
 simp only[Option.map_some,Option.getD_some,Option.bind_some,h2,h3]
 rfl
section
variable {B:World→Prop} {Ev:Event→Prop} {cs:List Frame}
noncomputable def frA4 (p:Option Addr)(N c:Nat)(n wk:Int):Frame:=Fm 4 (tA1 p N c n wk) [.inRegion opsA4 [0,1],.code restA4] .run
set_option maxRecDepth 100000 in
set_option maxHeartbeats 8000000 in
theorem toA4 (p:Option Addr)(N c:Nat)(n wk:Int):To PP true B Ev (fun g=>g=Gr (Frame.enter PP 5 #[] .normal) (frA4 p N c n wk :: cs)) (Gr (Frame.enter PP 4 #[.slice p N c,.int .i64 n,.int .i64 wk] .normal) cs):=by
 rw[enter4]
 show To PP true B Ev _ (S4 cs (tA0 p N c n wk) [.code (Tryz.f4.body.getD .skip)])
 simp only[frA4,tA0,tA1,S4,opsA4,restA4,Tryz.f4,Option.getD_some]
 refine To.ctl rfl (fun _ _=>stepG_seq) ?_
 refine To.ctl rfl (fun _ _=>stepG_region) ?_;simp only[List.size_toArray,List.length_cons,List.length_nil,Nat.reduceAdd,Nat.zero_add,List.range,List.range.loop]
 refine To.value _ rfl rfl (by k_ne) (fun _ _=>by go_simp<;>rfl) (fun _ _=>by first|(simp[go_sem];done)) ?_;walk_nrm
 refine To.ctl rfl (fun _ _=>stepG_region_end) ?_
 refine To.ctl rfl (fun _ _=>stepG_seq) ?_
 refine To.ctl rfl (fun _ _=>stepG_region) ?_;simp only[List.size_toArray,List.length_cons,List.length_nil,Nat.reduceAdd,Nat.zero_add,List.range,List.range.loop]
 refine To.call rfl rfl (by k_ne) rfl Tryz.func5 (by kernel_rfl) (show Tryz.f5.body=some (Tryz.f5.body.getD .skip) from by kernel_rfl) ?_
 refine To.nil ?_
 rw[enter5]
 have h2:Tryz.f5.ntmps=18:=by kernel_rfl
 generalize Tryz.f5.body.getD .skip=bd
 rw[h2]
 simp only[List.map_toArray,List.map_cons,List.map_nil,List.size_toArray,List.length_cons,List.length_nil,Nat.reduceAdd,Nat.reduceSub,Nat.sub_zero]
 rw[rep18]
 rfl
theorem frA4_finish (p:Option Addr)(N c:Nat)(n wk:Int):(frA4 p N c n wk).finish (.bool true)=Fm 4 (tA2 p N c n wk) [.inRegion opsA4 [1],.code restA4] .run:=by
 have:=Frame.finish_at (b:=base 4) (a:=⟨tA1 p N c n wk,[]⟩) (ops:=opsA4) (i:=0) (rest:=[1]) (k:=[.code restA4]) (v:=.bool true)
 refine this.trans ?_
 rfl
set_option maxRecDepth 100000 in
set_option maxHeartbeats 8000000 in
theorem toB4 (p:Option Addr)(N c:Nat)(n wk:Int):To PP true B Ev (fun g=>g=Gr (Fm 4 (tA3 p N c n wk) [.code restA4] .run) cs) (Gr (Fm 4 (tA2 p N c n wk) [.inRegion opsA4 [1],.code restA4] .run) cs):=by
 show To PP true B Ev _ (S4 cs (tA2 p N c n wk) [.inRegion opsA4 [1],.code restA4])
 simp only[tA2,tA3,S4,opsA4,restA4,Tryz.f4,Option.getD_some]
 refine To.value _ rfl rfl (by k_ne) (fun _ _=>by go_simp<;>rfl) (fun _ _=>by first|(simp[go_sem];done)) ?_;walk_nrm
 refine To.ctl rfl (fun _ _=>stepG_region_end) ?_
 exact To.nil rfl
noncomputable def frB4 (p:Option Addr)(N c:Nat)(n wk:Int):Frame:=Fm 4 (tA5 p N c n wk) [.inRegion opsB4 [1,2,3,4,5,6,7,8,9],.code restC4] .run
set_option maxRecDepth 100000 in
set_option maxHeartbeats 8000000 in
theorem toC4 (p:Option Addr)(N c:Nat)(n wk:Int):To PP true B Ev (fun g=>g=Gr (Frame.enter PP 15 #[.slice p N c] .normal) (frB4 p N c n wk :: cs)) (Gr (Fm 4 (tA4 p N c n wk) [.code restB4] .run) cs):=by
 show To PP true B Ev _ (S4 cs (tA4 p N c n wk) [.code restB4])
 simp only[frB4,tA4,tA5,S4,opsB4,restB4,restC4,restA4,Tryz.f4,Option.getD_some]
 refine To.ctl rfl (fun _ _=>stepG_seq) ?_
 refine To.ctl rfl (fun _ _=>stepG_region) ?_;simp only[List.size_toArray,List.length_cons,List.length_nil,Nat.reduceAdd,Nat.zero_add,List.range,List.range.loop]
 refine To.value _ rfl rfl (by k_ne) (fun _ _=>by go_simp<;>rfl) (fun _ _=>by first|(simp[go_sem];done)) ?_;walk_nrm
 refine To.call rfl rfl (by k_ne) rfl Tryz.func15 (by kernel_rfl) (show Tryz.f15.body=some (Tryz.f15.body.getD .skip) from by kernel_rfl) ?_
 refine To.nil ?_
 have h1:PP.funcs[15]?=some Tryz.f15:=Tryz.func15
 have h3:Tryz.f15.body=some (Tryz.f15.body.getD .skip):=by kernel_rfl
 generalize Tryz.f15.body.getD .skip=bd at h3
 rw[enter_at _ h1 h3]
 simp only[List.map_toArray,List.map_cons,List.map_nil,List.size_toArray,List.length_cons,List.length_nil,Nat.reduceAdd]
 rfl
theorem frB4_finish (p:Option Addr)(N c:Nat)(n wk:Int)(kv:Value):(frB4 p N c n wk).finish kv=Fm 4 (tA6 p N c n wk kv) [.inRegion opsB4 [2,3,4,5,6,7,8,9],.code restC4] .run:=by
 have:=Frame.finish_at (b:=base 4) (a:=⟨tA5 p N c n wk,[]⟩) (ops:=opsB4) (i:=1) (rest:=[2,3,4,5,6,7,8,9]) (k:=[.code restC4]) (v:=kv)
 refine this.trans ?_
 rfl
noncomputable def frC4 (p:Option Addr)(N c:Nat)(n wk:Int)(kv:Value):Frame:=Fm 4 (tA7 p N c n wk kv) [.inRegion opsB4 [4,5,6,7,8,9],.code restC4] .run
set_option maxRecDepth 100000 in
set_option maxHeartbeats 8000000 in
theorem toD4 (p:Option Addr)(N c:Nat)(n wk:Int)(kv:Value):To PP true B Ev (fun g=>g=Gr (Frame.enter PP 14 #[kv,.int .i64 n,.int .i64 wk] .normal) (frC4 p N c n wk kv :: cs)) (Gr (Fm 4 (tA6 p N c n wk kv) [.inRegion opsB4 [2,3,4,5,6,7,8,9],.code restC4] .run) cs):=by
 show To PP true B Ev _ (S4 cs (tA6 p N c n wk kv) [.inRegion opsB4 [2,3,4,5,6,7,8,9],.code restC4])
 simp only[frC4,tA6,tA7,S4,opsB4,restB4,restC4,restA4,Tryz.f4,Option.getD_some]
 refine To.value _ rfl rfl (by k_ne) (fun _ _=>by go_simp<;>rfl) (fun _ _=>by first|(simp[go_sem];done)) ?_;walk_nrm
 refine To.value _ rfl rfl (by k_ne) (fun _ _=>by go_simp<;>rfl) (fun _ _=>by first|(simp[go_sem];done)) ?_;walk_nrm
 refine To.call rfl rfl (by k_ne) rfl Tryz.func14 (by kernel_rfl) (show Tryz.f14.body=some (Tryz.f14.body.getD .skip) from by kernel_rfl) ?_
 refine To.nil ?_
 rw[enter14]
 have h2:Tryz.f14.ntmps=23:=by kernel_rfl
 generalize Tryz.f14.body.getD .skip=bd
 rw[h2]
 simp only[List.map_toArray,List.map_cons,List.map_nil,List.size_toArray,List.length_cons,List.length_nil,Nat.reduceAdd,Nat.reduceSub]
 rw[rep20]
 rfl
theorem frC4_finish (p:Option Addr)(N c:Nat)(n wk:Int)(kv u:Value):(frC4 p N c n wk kv).finish u=Fm 4 (tA8 p N c n wk kv u) (.inRegion opsB4 [5,6,7,8,9] :: [restC4].map Item.code) .run:=by
 have:=Frame.finish_at (b:=base 4) (a:=⟨tA7 p N c n wk kv,[]⟩) (ops:=opsB4) (i:=4) (rest:=[5,6,7,8,9]) (k:=[.code restC4]) (v:=u)
 refine this.trans ?_
 rfl
end
theorem cutA4_c:CutC lx PP 4 restB4 (cutA4 .skip) restA4:=by
 simp only[cutA4,restA4,restB4,Tryz.f4,Option.getD_some]
 exact .seq (by decide +kernel) .here
theorem cutA4_s:CutS lx PP 4 (cutA4 (.loop .skip)) restA4:=by
 simp only[cutA4,restA4,Tryz.f4,Option.getD_some]
 exact .seq (by decide +kernel) (.here _)
theorem restC4_t:todoT lx PP 4 (.inRegion opsB4 [5,6,7,8,9] :: [restC4].map Item.code):=by
 intro x hx
 simp only[List.map_cons,List.map_nil,List.mem_cons,List.not_mem_nil,or_false] at hx
 rcases hx with rfl|rfl<;>decide +kernel
set_option maxRecDepth 100000 in
set_option maxHeartbeats 4000000 in
theorem pass4 (p:Option Addr)(N c:Nat)(n wk:Int)(w:World)(hN:N≤600):(cutA4 .skip).wp Tryz.prog (fun e b w'=>e=.normal∧b.defers=[]∧b.tmps=tA4 p N c n wk∧w'=w) ⟨tA3 p N c n wk,[]⟩ w:=by
 have hd:¬(600:Nat)<N:=by omega
 simp only[cutA4,restA4,tA3,tA4,Tryz.f4,Option.getD_some]
 go_wp2
set_option maxRecDepth 100000 in
set_option maxHeartbeats 4000000 in
theorem over4 (p:Option Addr)(N c:Nat)(n wk:Int)(w:World)(hN:600<N):(cutA4 (.loop .skip)).wp Tryz.prog (bodyPost Tryz.prog Tryz.f4 (fun e w'=>∃u,e=.returned u∧u=.bool true∧w'=w)) ⟨tA3 p N c n wk,[]⟩ w:=by
 have hd:((600:Nat):Int)<(N:Int):=by omega
 simp only[cutA4,restA4,tA3,Tryz.f4,Option.getD_some]
 go_wp2
 go_ret
 exact⟨_,rfl,rfl,rfl⟩
end Go.Proofs.YtjeicikflkjacaaGreatDoor.Sh

/- SideBuckets: behind side.Buckets' return. -/
set_option linter.unusedSimpArgs false
set_option linter.unusedVariables false
namespace Go.Proofs.YtjeicikflkjacaaGreatDoor.Sh
open Go Go.Conc Go.Conc.Lib Go.RowKit Go.ConcN
open Ms Po
open Par (Fm Gr on stopper LocIn)
def Says (w:World)(e:Ending)(w':World):Prop:=∃u,e=.returned u∧u=.bool true∧Below w.heap.size w w'
theorem listB4 {Q:Exit→Act→World→Prop}{A:Act}{w:World}(h:wpList Tryz.prog opsB4 Q (opsB4.toList.drop 5) A w):wpOps Tryz.prog opsB4 Q [5,6,7,8,9] A w:=by
 have:=wpOps_eq_wpList (P:=Tryz.prog) (Q:=Q) (ops:=opsB4) (opsB4.toList.drop 5) 5 (fun j=>by simp)
 rw[show (opsB4.toList.drop 5).length=5 by simp[opsB4,restB4,restA4,Tryz.f4]] at this
 have e:List.range' 5 5=[5,6,7,8,9]:=rfl
 rw[e] at this
 rw[this]
 exact h
set_option maxRecDepth 100000 in
set_option maxHeartbeats 8000000 in
theorem err4i (a:Nat→Addr)(p:Option Addr)(N c:Nat)(n wk:Int)(kv ev:Value)(cc:Nat)(w:World)(he:Errs a w)(hc:chkN (N:Nat) 500 wk=cc)(hcc:cc≠0)(hev:ErrIs a w cc (-1) ev) :
  wpOps Tryz.prog opsB4 (Exit.then (Po.wpC Tryz.prog (bodyPost Tryz.prog Tryz.f4 (Says w)) [restC4]) (bodyPost Tryz.prog Tryz.f4 (Says w))) [5,6,7,8,9] ⟨tA8 p N c n wk kv (.tuple #[.slice none 0 0,ev]),[]⟩ w:=by
 have HW:Hid (Calls Tryz.prog 9 #[.int .i64 wk,.int .i64 (N:Nat),.int .i64 500] w fun e w'=>e=.returned (.agg #[.int .i64 (cc:Nat),.int .i64 (-1)])∧Below w.heap.size w w'):=by
  have:=workersFault_any wk (N:Nat) 500 w
  rw[hc] at this
  exact this
 have HE:Hid (Errs a w):=he
 have HEV:Hid (ErrIs a w cc (-1) ev):=hev
 have hz:((cc:Int)==0)=false:=by rw[beq_eq_false_iff_ne];omega
 have hp:(0:Int)<(cc:Int):=by omega
 have hq:0<cc:=by omega
 clear he hev hc
 refine listB4 ?_
 simp only[opsB4,restB4,restA4,restC4,tA8,Tryz.f4,Option.getD_some,List.drop,Po.wpC]
 go_wp2_with fail
 refine HW.out.mono ?_
 rintro e w1 ⟨rfl,hb1⟩
 have HF:Hid (Calls Tryz.prog 12 #[ev,.agg #[.int .i64 cc,.int .i64 (-1)]] (w1.alloc (.cells #[.int .i64 cc,.int .i64 (-1)] 33)) fun e w'=>e=.returned (.bool true)∧Below w.heap.size w w'):=by
  have hb:=below_then hb1 ((Below.refl _ _).alloc (Nat.le_refl _) (.cells #[.int .i64 cc,.int .i64 (-1)] 33))
  exact (faulted3_is (HE.out.later hb) (HEV.out.later hb)).mono fun e w' ⟨h1,h2⟩=>⟨h1,below_then hb h2⟩
 clear HW HE HEV hb1
 go_wp2_with fail
 refine HF.out.mono ?_
 rintro e w2 ⟨rfl,hb3⟩
 clear HF
 go_wp2
 go_ret
 exact⟨_,rfl,rfl,hb3⟩
set_option maxRecDepth 100000 in
set_option maxHeartbeats 8000000 in
theorem err4l (a:Nat→Addr)(p:Option Addr)(N c:Nat)(n wk:Int)(kv ev:Value)(w:World)(he:Errs a w)(hc:chkN (N:Nat) 500 wk=0)(hN:0<N)(hn:n<1)(hev:ErrIs a w 2 0 ev) :
  wpOps Tryz.prog opsB4 (Exit.then (Po.wpC Tryz.prog (bodyPost Tryz.prog Tryz.f4 (Says w)) [restC4]) (bodyPost Tryz.prog Tryz.f4 (Says w))) [5,6,7,8,9] ⟨tA8 p N c n wk kv (.tuple #[.slice none 0 0,ev]),[]⟩ w:=by
 have HW:Hid (Calls Tryz.prog 9 #[.int .i64 wk,.int .i64 (N:Nat),.int .i64 500] w fun e w'=>e=.returned (.agg #[.int .i64 0,.int .i64 (-1)])∧Below w.heap.size w w'):=by
  have:=workersFault_any wk (N:Nat) 500 w
  rw[hc] at this
  exact this
 have HE:Hid (Errs a w):=he
 have HEV:Hid (ErrIs a w 2 0 ev):=hev
 clear he hev hc
 refine listB4 ?_
 simp only[opsB4,restB4,restA4,restC4,tA8,Tryz.f4,Option.getD_some,List.drop,Po.wpC]
 go_wp2_with fail
 refine HW.out.mono ?_
 rintro e w1 ⟨rfl,hb1⟩
 have HF:Hid (Calls Tryz.prog 12 #[ev,.agg #[.int .i64 2,.int .i64 0]] (w1.alloc (.cells #[.int .i64 2,.int .i64 0] 33)) fun e w'=>e=.returned (.bool true)∧Below w.heap.size w w'):=by
  have hb:=below_then hb1 ((Below.refl _ _).alloc (Nat.le_refl _) (.cells #[.int .i64 2,.int .i64 0] 33))
  exact (faulted3_is (c:=2) (pl:=0) (HE.out.later hb) (HEV.out.later hb)).mono fun e w' ⟨h1,h2⟩=>⟨h1,below_then hb h2⟩
 clear HW HE HEV hb1
 go_wp2_with fail
 refine HF.out.mono ?_
 rintro e w2 ⟨rfl,hb3⟩
 clear HF
 go_wp2
 go_ret
 exact⟨_,rfl,rfl,hb3⟩
set_option maxRecDepth 100000 in
set_option maxHeartbeats 8000000 in
theorem err4g (a:Nat→Addr)(p:Option Addr)(N c:Nat)(n wk:Int)(kv ev:Value)(w:World)(he:Errs a w)(hc:chkN (N:Nat) 500 wk=0)(hN:0<N)(hn:1048576<n)(hev:ErrIs a w 2 0 ev) :
  wpOps Tryz.prog opsB4 (Exit.then (Po.wpC Tryz.prog (bodyPost Tryz.prog Tryz.f4 (Says w)) [restC4]) (bodyPost Tryz.prog Tryz.f4 (Says w))) [5,6,7,8,9] ⟨tA8 p N c n wk kv (.tuple #[.slice none 0 0,ev]),[]⟩ w:=by
 have HW:Hid (Calls Tryz.prog 9 #[.int .i64 wk,.int .i64 (N:Nat),.int .i64 500] w fun e w'=>e=.returned (.agg #[.int .i64 0,.int .i64 (-1)])∧Below w.heap.size w w'):=by
  have:=workersFault_any wk (N:Nat) 500 w
  rw[hc] at this
  exact this
 have HE:Hid (Errs a w):=he
 have HEV:Hid (ErrIs a w 2 0 ev):=hev
 have hn1:¬n<1:=by omega
 clear he hev hc
 refine listB4 ?_
 simp only[opsB4,restB4,restA4,restC4,tA8,Tryz.f4,Option.getD_some,List.drop,Po.wpC]
 go_wp2_with fail
 refine HW.out.mono ?_
 rintro e w1 ⟨rfl,hb1⟩
 have HF:Hid (Calls Tryz.prog 12 #[ev,.agg #[.int .i64 2,.int .i64 0]] (w1.alloc (.cells #[.int .i64 2,.int .i64 0] 33)) fun e w'=>e=.returned (.bool true)∧Below w.heap.size w w'):=by
  have hb:=below_then hb1 ((Below.refl _ _).alloc (Nat.le_refl _) (.cells #[.int .i64 2,.int .i64 0] 33))
  exact (faulted3_is (c:=2) (pl:=0) (HE.out.later hb) (HEV.out.later hb)).mono fun e w' ⟨h1,h2⟩=>⟨h1,below_then hb h2⟩
 clear HW HE HEV hb1
 go_wp2_with fail
 refine HF.out.mono ?_
 rintro e w2 ⟨rfl,hb3⟩
 clear HF
 go_wp2
 go_ret
 exact⟨_,rfl,rfl,hb3⟩
set_option maxRecDepth 100000 in
set_option maxHeartbeats 8000000 in
theorem good4z (p po:Option Addr)(c co:Nat)(n wk:Int)(kv:Value)(w:World)(hc:chkN ((0:Nat):Int) 500 wk=0) :
  wpOps Tryz.prog opsB4 (Exit.then (Po.wpC Tryz.prog (bodyPost Tryz.prog Tryz.f4 (Says w)) [restC4]) (bodyPost Tryz.prog Tryz.f4 (Says w))) [5,6,7,8,9] ⟨tA8 p 0 c n wk kv (.tuple #[.slice po 0 co,.nilIface]),[]⟩ w:=by
 have HW:Hid (Calls Tryz.prog 9 #[.int .i64 wk,.int .i64 0,.int .i64 500] w fun e w'=>e=.returned (.agg #[.int .i64 0,.int .i64 (-1)])∧Below w.heap.size w w'):=by
  have:=workersFault_any wk ((0:Nat):Int) 500 w
  rw[hc] at this
  exact this
 clear hc
 refine listB4 ?_
 simp only[opsB4,restB4,restA4,restC4,tA8,Tryz.f4,Option.getD_some,List.drop,Po.wpC]
 go_wp2_with fail
 refine HW.out.mono ?_
 rintro e w1 ⟨rfl,hb1⟩
 have hb2:Below w.heap.size w (w1.alloc (.cells #[.int .i64 0,.int .i64 (-1)] 33)):=below_then hb1 ((Below.refl _ _).alloc (Nat.le_refl _) _)
 clear HW hb1
 go_wp2_with fail
 generalize (w1.alloc (.cells #[.int .i64 0,.int .i64 (-1)] 33))=W2 at *
 go_loopw [11] (fun t W=>W=W2∧t=.int .i64 0) (fun _ _=>0)
 case atStart=>exact⟨rfl,rfl⟩
 case round =>
  obtain⟨rfl,rfl⟩:=hrel
  go_wp2
  go_ret
  exact⟨_,rfl,rfl,hb2⟩
set_option maxRecDepth 100000 in
set_option maxHeartbeats 8000000 in
theorem good4 (b o N c bo oo co m:Nat)(wk:Int)(K R:Nat→Nat)(kv:Value)(w:World)(hc:chkN (N:Nat) 500 wk=0)(hN:0<N)(hN6:N≤600)(hm1:1≤m)(hm2:m≤1048576)(hk:∀i,i<N→w.cell? ⟨b,o+i,none⟩=some (.int .u64 (K i:Nat)))(ho:∀i,i<N→w.cell? ⟨bo,oo+i,none⟩=some (.int .i64 (R i:Nat)))
  (h1:∀i,i<N→∀W:World,Calls Tryz.prog 16 #[.int .u64 (K i:Nat),.int .i64 (m:Nat)] W fun e w'=>e=.returned (.tuple #[.int .i64 (R i:Nat),.int .i64 0])∧Below W.heap.size W w')
  (h2:∀i,i<N→∀W:World,Calls Tryz.prog 17 #[.int .u64 (K i:Nat),.int .i64 (m:Nat)] W fun e w'=>e=.returned (.tuple #[.int .i64 (R i:Nat),.nilIface])∧Below W.heap.size W w') :
  wpOps Tryz.prog opsB4 (Exit.then (Po.wpC Tryz.prog (bodyPost Tryz.prog Tryz.f4 (Says w)) [restC4]) (bodyPost Tryz.prog Tryz.f4 (Says w))) [5,6,7,8,9] ⟨tA8 (some ⟨b,o,none⟩) N c (m:Nat) wk kv (.tuple #[.slice (some ⟨bo,oo,none⟩) N co,.nilIface]),[]⟩ w:=by
 have HW:Hid (Calls Tryz.prog 9 #[.int .i64 wk,.int .i64 (N:Nat),.int .i64 500] w fun e w'=>e=.returned (.agg #[.int .i64 0,.int .i64 (-1)])∧Below w.heap.size w w'):=by
  have:=workersFault_any wk (N:Nat) 500 w
  rw[hc] at this
  exact this
 have HK:Hid (∀i,i<N→w.cell? ⟨b,o+i,none⟩=some (.int .u64 (K i:Nat))):=hk
 have HO:Hid (∀i,i<N→w.cell? ⟨bo,oo+i,none⟩=some (.int .i64 (R i:Nat))):=ho
 have H1:Hid (∀i,i<N→∀W:World,Calls Tryz.prog 16 #[.int .u64 (K i:Nat),.int .i64 (m:Nat)] W fun e w'=>e=.returned (.tuple #[.int .i64 (R i:Nat),.int .i64 0])∧Below W.heap.size W w'):=h1
 have H2:Hid (∀i,i<N→∀W:World,Calls Tryz.prog 17 #[.int .u64 (K i:Nat),.int .i64 (m:Nat)] W fun e w'=>e=.returned (.tuple #[.int .i64 (R i:Nat),.nilIface])∧Below W.heap.size W w'):=h2
 have n1:¬(m:Int)<1:=by omega
 have n2:¬(1048576:Int)<(m:Int):=by omega
 have n3:¬(1048576:Nat)<m:=by omega
 have n4:¬m<1:=by omega
 have n5:¬m=0:=by omega
 clear hc hk ho h1 h2
 refine listB4 ?_
 simp only[opsB4,restB4,restA4,restC4,tA8,Tryz.f4,Option.getD_some,List.drop,Po.wpC]
 go_wp2_with fail
 refine HW.out.mono ?_
 rintro e w1 ⟨rfl,hb1⟩
 have hb2:Below w.heap.size w (w1.alloc (.cells #[.int .i64 0,.int .i64 (-1)] 33)):=below_then hb1 ((Below.refl _ _).alloc (Nat.le_refl _) _)
 clear HW hb1
 go_wp2_with fail
 generalize (w1.alloc (.cells #[.int .i64 0,.int .i64 (-1)] 33))=W2 at *
 go_loopw [11] (fun t W=>Below w.heap.size w W∧∃i:Nat,i≤N∧t=.int .i64 i) (fun t _=>N - (intOf t).toNat)
 case atStart=>exact⟨hb2,0,Nat.zero_le _,rfl⟩
 case round =>
  obtain⟨hb,i,hile,rfl⟩:=hrel
  by_cases hlt:i<N
  ·have hii:(i:Int)<(N:Int):=by omega
   have hd:decide ((i:Int)<(N:Int))=true:=by simp;omega
   have kc:=below_cell hb (HK.out i hlt)
   have oc:=below_cell hb (HO.out i hlt)
   have C1:Hid (Calls Tryz.prog 16 #[.int .u64 (K i:Nat),.int .i64 (m:Nat)] wr fun e w'=>e=.returned (.tuple #[.int .i64 (R i:Nat),.int .i64 0])∧Below wr.heap.size wr w'):=H1.out i hlt wr
   have C2:Hid (∀W:World,Calls Tryz.prog 17 #[.int .u64 (K i:Nat),.int .i64 (m:Nat)] W fun e w'=>e=.returned (.tuple #[.int .i64 (R i:Nat),.nilIface])∧Below W.heap.size W w'):=H2.out i hlt
   generalize K i=k at *
   generalize R i=r at *
   go_wp2_with fail
   refine C1.out.mono ?_
   rintro e w3 ⟨rfl,hb3⟩
   have kc3:=below_cell hb3 kc
   have oc3:=below_cell hb3 oc
   have hbb:=below_then hb hb3
   clear C1 hb3 kc oc
   go_wp2_with fail
   refine (C2.out w3).mono ?_
   rintro e w4 ⟨rfl,hb4⟩
   have oc4:=below_cell hb4 oc3
   have hbc:=below_then hbb hb4
   clear C2 hb4 kc3 oc3 hbb
   go_wp2_with fail
   exact⟨⟨hbc,i+1,by omega,by go_num⟩,by simp[intOf];omega⟩
  ·obtain rfl:i=N:=by omega
   have hd:decide ((i:Int)<(i:Int))=false:=by simp
   go_wp2
   go_ret
   exact⟨_,rfl,rfl,hb⟩
end Go.Proofs.YtjeicikflkjacaaGreatDoor.Sh

/- SideBuckets: the law says true, whatever the tape, and all that was there stands. -/
set_option linter.unusedSimpArgs false
set_option linter.unusedVariables false
namespace Go.Proofs.YtjeicikflkjacaaGreatDoor.Sh
open Go Go.Conc Go.Conc.Lib Go.RowKit Go.ConcN
open Ms Po
open Par (Fm Gr on stopper LocIn)
theorem Ends.rest0 {v:World}{R:Value→World→Prop}{f:FuncId}(hf:∃fn,PP.funcs[f]?=some fn)(hi:PP.inits.idxOf? f=none){t:Array Value}(ht:SlT lx f t){k:List Item}(hk:todoT lx PP f k)(hsz:∀u v',R u v'→v.heap.size≤v'.heap.size)
  (hC:∀τ d,∃fr v' u,fr.fn=f∧Steps PP (lone (Fm f t k .run) [stopper] (on v τ d)) (lone fr [stopper] v')∧fr.leaving PP v' (.returned u)∧R u v'):Ends (Gr (Fm f t k .run) []) v R:=by
 have:=Ends.rest (v:=v) (R:=R) hf hi ht hk (G:=[]) (K:=[]) .plain hsz (by rw[List.append_nil];exact hC)
 rw[List.append_nil] at this
 exact this
def Yea (v:World)(u:Value)(v':World):Prop:=u=.bool true∧Bel v.heap.size v v'
theorem Ends.mono {g:Goroutine}{v:World}{R R':Value→World→Prop}(h:Ends g v R)(k:∀u v',R u v'→R' u v'):Ends g v R':=fun Zg gs w sl t q τ d M h0 hv=>by
 obtain⟨N,last,o,w',t',e2,e3,e4,u,ho,⟨Z2,v2,τ2,d2,k2,hv2,hr⟩,rest⟩:=h Zg gs w sl t q τ d M h0 hv
 exact⟨N,last,o,w',t',e2,e3,e4,u,ho,⟨Z2,v2,τ2,d2,k2,hv2,k _ _ hr⟩,rest⟩
theorem Yea.from {v v6:World}(hb:Bel v.heap.size v v6){u:Value}{v':World}(h:Yea v6 u v'):Yea v u v':=⟨h.1,hb.trans h.2 hb.size⟩
theorem sayB4 (p:Option Addr)(N c:Nat)(n wk:Int)(kv u:Value){v v6:World}(hb:Bel v.heap.size v v6)
  (h:∀τ d,wpOps Tryz.prog opsB4 (Exit.then (Po.wpC Tryz.prog (bodyPost Tryz.prog Tryz.f4 (Says (on v6 τ d))) [restC4]) (bodyPost Tryz.prog Tryz.f4 (Says (on v6 τ d)))) [5,6,7,8,9] ⟨tA8 p N c n wk kv u,[]⟩ (on v6 τ d)) :
  Ends (Gr (Fm 4 (tA8 p N c n wk kv u) (.inRegion opsB4 [5,6,7,8,9] :: [restC4].map Item.code) .run) []) v6 (Yea v):=by
 refine Ends.mono (R:=Yea v6) (Ends.rest0 ⟨_,Tryz.func4⟩ (by decide +kernel) (fun s hs=>by cases hs) restC4_t (fun u v' h=>h.2.size) (fun τ d=>?_)) fun u v' h=>h.from hb
 obtain⟨fr,v',u',h0,h1,h2,h3,h4⟩:=region_leaves (R:=fun u w'=>u=.bool true∧Below v6.heap.size (on v6 τ d) w') Tryz.func4 (h τ d)
 exact⟨fr,v',u',h0,h1,h2,h3,.ofOn h4⟩
theorem errIs_on {a:Nat→Addr}{v:World}{c:Nat}{pl:Int}{e:Value}(h:ErrIs a v c pl e)(τ:Nat→Question→Nat)(d:Nat):ErrIs a (on v τ d) c pl e:=h
set_option maxHeartbeats 4000000 in
theorem sideBuckets_ends (a:Nat→Addr){v:World}(kv:Value)(ks:List Nat)(n wk:Int)(he:Errs a v)(hK:Keys1 v kv ks)(hG:PP.globals.size≤v.heap.size) :
  Ends (Gr (Frame.enter PP 4 #[kv,.int .i64 n,.int .i64 wk] .normal) []) v (Yea v):=by
 obtain⟨p,c,rfl,hat⟩:=hK.at
 refine (Rch.to (toA4 p ks.length c n wk)).ends ?_
 rintro g1 v1 ⟨rfl,rfl⟩
 refine (abreast_rch a he hG (frA4 p ks.length c n wk) []).ends ?_
 rintro g2 v2 ⟨rfl,hb2⟩
 rw[frA4_finish]
 refine (Rch.to (toB4 p ks.length c n wk)).ends ?_
 rintro g3 v3 ⟨rfl,rfl⟩
 by_cases h6:600<ks.length
 ·refine Ends.mono (R:=Yea v3) (Ends.rest (k:=[]) (G:=[.code (cutA4 (.loop .skip))]) (K:=[.code restA4]) ⟨_,Tryz.func4⟩ (by decide +kernel) (fun s hs=>by cases hs) todoT.nil (.stop rfl cutA4_s) (fun u v' h=>h.2.size) (fun τ d=>?_)) fun u v' h=>h.from hb2
  obtain⟨fr,v',u',h0,h1,h2,h3,h4⟩:=code_leaves (R:=fun u w'=>u=.bool true∧w'=on v3 τ d) Tryz.func4 (over4 p ks.length c n wk (on v3 τ d) h6)
  exact⟨fr,v',u',h0,h1,h2,h3,by rw[h4];exact⟨rfl,rfl,Nat.le_refl _,fun _ _=>rfl⟩⟩
 refine (Rch.piece (f:=4) ⟨_,Tryz.func4⟩ (fun s hs=>by cases hs) (k:=[]) (G:=[.code (cutA4 .skip)]) (K:=[.code restA4]) (T:=[.code restB4]) todoT.nil (.cut rfl cutA4_c)
  (R:=fun f1 t1 v4=>f1=4∧t1=tA4 p ks.length c n wk∧Bel v3.heap.size v3 v4)
  (fun τ d=>by
   obtain⟨t1,v',hs,ht,hw⟩:=steps_of_wp (f:=4) (R:=fun t1 v4=>t1=tA4 p ks.length c n wk∧v4=on v3 τ d) (pass4 p ks.length c n wk (on v3 τ d) (by omega))
   exact⟨_,t1,v',hs,rfl,ht,by rw[hw];exact⟨rfl,rfl,Nat.le_refl _,fun _ _=>rfl⟩⟩)).ends ?_
 rintro g4 v4 ⟨f1,t1,rfl,rfl,rfl,hb4⟩
 refine (Rch.to (toC4 p ks.length c n wk)).ends ?_
 rintro g5 v5 ⟨rfl,rfl⟩
 have hb5:Bel v1.heap.size v1 v5:=hb2.trans hb4 hb2.size
 have hK5:Keys1 v5 (.slice p ks.length c) ks:=by
  rcases hK with h|⟨b,o,c',h1,h2,h3⟩
  ·exact .inl h
  ·exact .inr ⟨b,o,c',h1,h2,fun k hk=>hb5.seen.cell (h3 k hk)⟩
 refine (Rch.call (f:=15) (by decide +kernel) (fun s hs=>by cases hs) (R:=fun u v'=>v'.ownsRow v5.heap.size 46 1 u ks.length (ks.map encU)∧Bel v5.heap.size v5 v') (fun τ d=>(ownKeys_own _ ks (on v5 τ d) hK5 (by omega)).mono fun e w' ⟨kv',h1,h2,h3⟩=>⟨kv',h1,h2,.ofOn h3⟩)).ends ?_
 rintro g6 v6 ⟨kv',rfl,hown,hb6⟩
 rw[frB4_finish]
 refine (Rch.to (toD4 p ks.length c n wk kv')).ends ?_
 rintro g7 v7 ⟨rfl,rfl⟩
 have hb7:Bel v1.heap.size v1 v7:=hb5.trans hb6 hb5.size
 refine (buckets_rch a kv' ks n wk (errs_bel he hb7) (keys0_of_owns hown) (by omega) (by have:=hb7.size;omega) (frC4 p ks.length c n wk kv') []).ends ?_
 rintro g8 v8 ⟨u,rfl,hb8,hS⟩
 rw[frC4_finish]
 have hb:Bel v1.heap.size v1 v8:=hb7.trans hb8 hb7.size
 have hE:Errs a v8:=errs_bel he hb
 refine sayB4 p ks.length c n wk kv' u hb fun τ d=>?_
 rcases hS with⟨hc,ev,rfl,hev⟩|⟨hc,kk,cs,pl,hg,hA⟩
 ·exact err4i a p ks.length c n wk kv' ev _ (on v8 τ d) (errs_on hE τ d) rfl hc (errIs_on hev τ d)
 rcases Nat.eq_zero_or_pos ks.length with h0|hpos
 ·obtain rfl:ks=[]:=List.length_eq_zero_iff.1 h0
  rcases hA with⟨_,x,rfl,ho⟩|⟨j,hj,_⟩
  ·obtain⟨po,co,rfl⟩:=(ints_of_owns ho).slice
   exact good4z p po c co n wk kv' (on v8 τ d) hc
  ·exact absurd hj (Nat.not_lt_zero _)
 by_cases hn:n<1∨1048576<n
 ·have hcs:∀i,i<ks.length→cs i=2:=fun i hi=>by
   rcases hg i hi with⟨_,m,rfl,h1,h2,_⟩|⟨h,_⟩
   ·omega
   ·exact h
  rcases hA with⟨h,_⟩|⟨j,hj,hall,hne,ev,rfl,hev⟩
  ·have:=h 0 hpos
   rw[hcs 0 hpos] at this
   cases this
  ·obtain rfl:j=0:=by
    rcases Nat.eq_zero_or_pos j with h|h
    ·exact h
    ·have:=hall 0 h
     rw[hcs 0 hpos] at this
     cases this
   rw[hcs 0 hpos] at hev
   rcases hn with hn|hn
   ·exact err4l a p ks.length c n wk kv' ev (on v8 τ d) (errs_on hE τ d) hc hpos hn (errIs_on hev τ d)
   ·exact err4g a p ks.length c n wk kv' ev (on v8 τ d) (errs_on hE τ d) hc hpos hn (errIs_on hev τ d)
 ·obtain⟨m,rfl⟩:∃m:Nat,n=m:=⟨n.toNat,by omega⟩
  have hcs:∀i,i<ks.length→cs i=0∧kk i=(Lh.jb (ks.getD i 0) m:Nat):=fun i hi=>by
   rcases hg i hi with⟨h,m',e,h1,h2,h3⟩|⟨_,h⟩
   ·obtain rfl:m=m':=by omega
    exact⟨h,h3⟩
   ·exact absurd h hn
  rcases hA with⟨_,x,rfl,ho⟩|⟨j,hj,hall,hne,_⟩
  ·have hI:=ints_of_owns ho
   rcases hI with⟨h,_⟩|⟨bo,oo,co,rfl,hx⟩
   ·have h':((List.range ks.length).map kk).length=0:=by rw[h];rfl
    rw[List.length_map,List.length_range] at h'
    omega
   ·obtain⟨b,o,rfl,_⟩:=hat 0 hpos
    have hl:((List.range ks.length).map kk).length=ks.length:=by simp
    rw[hl]
    refine good4 b o ks.length c bo oo co m wk (fun i=>ks.getD i 0) (fun i=>Lh.jb (ks.getD i 0) m) kv' (on v8 τ d) hc hpos (by omega) (by omega) (by omega) (fun i hi=>?_) (fun i hi=>?_) (fun i hi W=>bucketOf_good _ m W (by omega) (by omega)) (fun i hi W=>bucket_good _ m W (by omega) (by omega))
    ·obtain⟨b',o',e,hcell⟩:=hat i hi
     injection e with e
     injection e with e1 e2
     subst e1 e2
     have:=hb.seen.cell hcell
     rw[show ks.getD i 0=ks[i] by simp[List.getD,hi]]
     exact this
    ·have:=hx i (by rw[hl];exact hi)
     simp only[List.getElem_map,List.getElem_range] at this
     rw[(hcs i hi).2] at this
     exact this
  ·exact absurd (hcs j hj).1 hne
end Go.Proofs.YtjeicikflkjacaaGreatDoor.Sh
