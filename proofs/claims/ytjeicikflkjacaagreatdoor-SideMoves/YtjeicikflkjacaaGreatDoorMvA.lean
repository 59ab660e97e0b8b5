/- SideMoves: its frames, up to the call of side.Moves. -/
import Derived.Test.YtjeicikflkjacaaGreatDoorM46
import Derived.Test.YtjeicikflkjacaaGreatDoorM7
set_option linter.unusedSimpArgs false
set_option linter.unusedVariables false
namespace Go.Proofs.YtjeicikflkjacaaGreatDoor.Sh
open Go Go.Conc Go.Conc.Lib Go.RowKit Go.ConcN
open Ms Po
open Par (Fm Gr on stopper LocIn)
noncomputable def opsA3:Array Oper:=match Tryz.f3.body.getD .skip with|.seq _ (.seq (.region _ o _) _)=>o|_=>#[]
noncomputable def restA3:Code:=match Tryz.f3.body.getD .skip with|.seq _ (.seq _ c)=>c|_=>.skip
noncomputable def cutA3 (e:Code):Code:=match restA3 with|.seq a (.seq b (.seq d _))=>.seq a (.seq b (.seq d e))|_=>.skip
noncomputable def restD3:Code:=match restA3 with|.seq _ (.seq _ (.seq _ c))=>c|_=>.skip
noncomputable def opsD3:Array Oper:=match restD3 with|.seq (.region _ o _) _=>o|_=>#[]
noncomputable def restE3:Code:=match restD3 with|.seq _ c=>c|_=>.skip
noncomputable abbrev S3 (cs:List Frame) (t:Array Value) (k:List Item):Goroutine:=G ((base 3).at ⟨t,[]⟩ k) cs
noncomputable def tB0 (pa p:Option Addr)(la ca N c:Nat)(n wk:Int):Array Value:=#[.slice pa la ca,.slice p N c,.int .i64 n,.int .i64 wk,undef,undef,undef,undef,undef,undef,undef,undef,undef,undef,undef,undef,undef,undef,undef,undef,undef,undef,undef,undef,undef,undef,undef,undef,undef,undef,undef,undef,undef,undef,undef,undef,undef,undef,undef,undef,undef,undef,undef,undef,undef,undef,undef,undef,undef,undef,undef,undef,undef,undef,undef,undef,undef,undef,undef,undef,undef,undef,undef,undef,undef,undef,undef,undef,undef,undef,undef,undef,undef,undef,undef,undef,undef,undef,undef,undef,undef,undef,undef,undef,undef,undef,undef,undef,undef,undef,undef,undef,undef,undef,undef,undef,undef,undef,undef,undef,undef,undef,undef,undef,undef,undef,undef,undef,undef,undef,undef,undef,undef,undef,undef,undef,undef,undef,undef,undef,undef,undef,undef,undef,undef,undef,undef,undef,undef,undef,undef,undef,undef,undef,undef,undef,undef,undef,undef,undef,undef,undef,undef,undef,undef]
noncomputable def tB1 (pa p:Option Addr)(la ca N c:Nat)(n wk:Int):Array Value:=#[.slice pa la ca,.slice p N c,.int .i64 n,.int .i64 wk,undef,undef,undef,undef,.bool false,undef,undef,undef,undef,undef,undef,undef,undef,undef,undef,undef,undef,undef,undef,undef,undef,undef,undef,undef,undef,undef,undef,undef,undef,undef,undef,undef,undef,undef,undef,undef,undef,undef,undef,undef,undef,undef,undef,undef,undef,undef,undef,undef,undef,undef,undef,undef,undef,undef,undef,undef,undef,undef,undef,undef,undef,undef,undef,undef,undef,undef,undef,undef,undef,undef,undef,undef,undef,undef,undef,undef,undef,undef,undef,undef,undef,undef,undef,undef,undef,undef,undef,undef,undef,undef,undef,undef,undef,undef,undef,undef,undef,undef,undef,undef,undef,undef,undef,undef,undef,undef,undef,undef,undef,undef,undef,undef,undef,undef,undef,undef,undef,undef,undef,undef,undef,undef,undef,undef,undef,undef,undef,undef,undef,undef,undef,undef,undef,undef,undef,undef,undef,undef,undef,undef,undef]
noncomputable def tB2 (pa p:Option Addr)(la ca N c:Nat)(n wk:Int):Array Value:=#[.slice pa la ca,.slice p N c,.int .i64 n,.int .i64 wk,undef,undef,undef,undef,.bool false,undef,undef,undef,undef,undef,undef,undef,undef,undef,undef,undef,undef,.bool true,undef,undef,undef,undef,undef,undef,undef,undef,undef,undef,undef,undef,undef,undef,undef,undef,undef,undef,undef,undef,undef,undef,undef,undef,undef,undef,undef,undef,undef,undef,undef,undef,undef,undef,undef,undef,undef,undef,undef,undef,undef,undef,undef,undef,undef,undef,undef,undef,undef,undef,undef,undef,undef,undef,undef,undef,undef,undef,undef,undef,undef,undef,undef,undef,undef,undef,undef,undef,undef,undef,undef,undef,undef,undef,undef,undef,undef,undef,undef,undef,undef,undef,undef,undef,undef,undef,undef,undef,undef,undef,undef,undef,undef,undef,undef,undef,undef,undef,undef,undef,undef,undef,undef,undef,undef,undef,undef,undef,undef,undef,undef,undef,undef,undef,undef,undef,undef,undef,undef,undef,undef,undef,undef]
noncomputable def tB3 (pa p:Option Addr)(la ca N c:Nat)(n wk:Int):Array Value:=#[.slice pa la ca,.slice p N c,.int .i64 n,.int .i64 wk,undef,undef,undef,undef,.bool false,.bool true,undef,undef,undef,undef,undef,undef,undef,undef,undef,undef,undef,.bool true,undef,undef,undef,undef,undef,undef,undef,undef,undef,undef,undef,undef,undef,undef,undef,undef,undef,undef,undef,undef,undef,undef,undef,undef,undef,undef,undef,undef,undef,undef,undef,undef,undef,undef,undef,undef,undef,undef,undef,undef,undef,undef,undef,undef,undef,undef,undef,undef,undef,undef,undef,undef,undef,undef,undef,undef,undef,undef,undef,undef,undef,undef,undef,undef,undef,undef,undef,undef,undef,undef,undef,undef,undef,undef,undef,undef,undef,undef,undef,undef,undef,undef,undef,undef,undef,undef,undef,undef,undef,undef,undef,undef,undef,undef,undef,undef,undef,undef,undef,undef,undef,undef,undef,undef,undef,undef,undef,undef,undef,undef,undef,undef,undef,undef,undef,undef,undef,undef,undef,undef,undef,undef,undef]
noncomputable def tM (pa p:Option Addr)(la ca N c:Nat)(n wk:Int)(own:Value)(g:Nat→Value):Array Value:=#[.slice pa la ca,.slice p N c,.int .i64 n,.int .i64 wk,g 4,g 5,g 6,g 7,g 8,g 9,own,g 11,g 12,g 13,g 14,g 15,g 16,g 17,g 18,g 19,g 20,g 21,g 22,g 23,g 24,g 25,g 26,g 27,g 28,g 29,g 30,g 31,g 32,g 33,g 34,g 35,g 36,g 37,g 38,g 39,g 40,g 41,g 42,g 43,g 44,g 45,g 46,g 47,g 48,g 49,g 50,g 51,g 52,g 53,g 54,g 55,g 56,g 57,g 58,g 59,g 60,g 61,g 62,g 63,g 64,g 65,g 66,g 67,g 68,g 69,g 70,g 71,g 72,g 73,g 74,g 75,g 76,g 77,g 78,g 79,g 80,g 81,g 82,g 83,g 84,g 85,g 86,g 87,g 88,g 89,g 90,g 91,g 92,g 93,g 94,g 95,g 96,g 97,g 98,g 99,g 100,g 101,g 102,g 103,g 104,g 105,g 106,g 107,g 108,g 109,g 110,g 111,g 112,g 113,g 114,g 115,g 116,g 117,g 118,g 119,g 120,g 121,g 122,g 123,g 124,g 125,g 126,g 127,g 128,g 129,g 130,g 131,g 132,g 133,g 134,g 135,g 136,g 137,g 138,g 139,g 140,g 141,g 142,g 143,g 144]
noncomputable def tM1 (pa p:Option Addr)(la ca N c:Nat)(n wk:Int)(own:Value)(g:Nat→Value):Array Value:=#[.slice pa la ca,.slice p N c,.int .i64 n,.int .i64 wk,g 4,g 5,g 6,g 7,g 8,g 9,own,g 11,g 12,g 13,g 14,g 15,g 16,g 17,g 18,g 19,g 20,g 21,g 22,g 23,g 24,g 25,g 26,g 27,g 28,g 29,g 30,g 31,g 32,g 33,g 34,g 35,g 36,g 37,g 38,g 39,g 40,g 41,g 42,g 43,g 44,g 45,g 46,g 47,g 48,g 49,g 50,g 51,g 52,g 53,g 54,g 55,g 56,g 57,g 58,g 59,g 60,g 61,g 62,g 63,g 64,g 65,g 66,.slice pa la ca,g 68,g 69,g 70,g 71,g 72,g 73,g 74,g 75,g 76,g 77,g 78,g 79,g 80,g 81,g 82,g 83,g 84,g 85,g 86,g 87,g 88,g 89,g 90,g 91,g 92,g 93,g 94,g 95,g 96,g 97,g 98,g 99,g 100,g 101,g 102,g 103,g 104,g 105,g 106,g 107,g 108,g 109,g 110,g 111,g 112,g 113,g 114,g 115,g 116,g 117,g 118,g 119,g 120,g 121,g 122,g 123,g 124,g 125,g 126,g 127,g 128,g 129,g 130,g 131,g 132,g 133,g 134,g 135,g 136,g 137,g 138,g 139,g 140,g 141,g 142,g 143,g 144]
noncomputable def tM2 (pa p:Option Addr)(la ca N c:Nat)(n wk:Int)(own:Value)(g:Nat→Value)(xa:Value):Array Value:=#[.slice pa la ca,.slice p N c,.int .i64 n,.int .i64 wk,g 4,g 5,g 6,g 7,g 8,g 9,own,g 11,g 12,g 13,g 14,g 15,g 16,g 17,g 18,g 19,g 20,g 21,g 22,g 23,g 24,g 25,g 26,g 27,g 28,g 29,g 30,g 31,g 32,g 33,g 34,g 35,g 36,g 37,g 38,g 39,g 40,g 41,g 42,g 43,g 44,g 45,g 46,g 47,g 48,g 49,g 50,g 51,g 52,g 53,g 54,g 55,g 56,g 57,g 58,g 59,g 60,g 61,g 62,g 63,g 64,g 65,g 66,.slice pa la ca,xa,g 69,g 70,g 71,g 72,g 73,g 74,g 75,g 76,g 77,g 78,g 79,g 80,g 81,g 82,g 83,g 84,g 85,g 86,g 87,g 88,g 89,g 90,g 91,g 92,g 93,g 94,g 95,g 96,g 97,g 98,g 99,g 100,g 101,g 102,g 103,g 104,g 105,g 106,g 107,g 108,g 109,g 110,g 111,g 112,g 113,g 114,g 115,g 116,g 117,g 118,g 119,g 120,g 121,g 122,g 123,g 124,g 125,g 126,g 127,g 128,g 129,g 130,g 131,g 132,g 133,g 134,g 135,g 136,g 137,g 138,g 139,g 140,g 141,g 142,g 143,g 144]
noncomputable def tM3 (pa p:Option Addr)(la ca N c:Nat)(n wk:Int)(own:Value)(g:Nat→Value)(xa:Value):Array Value:=#[.slice pa la ca,.slice p N c,.int .i64 n,.int .i64 wk,g 4,g 5,g 6,g 7,g 8,g 9,own,g 11,g 12,g 13,g 14,g 15,g 16,g 17,g 18,g 19,g 20,g 21,g 22,g 23,g 24,g 25,g 26,g 27,g 28,g 29,g 30,g 31,g 32,g 33,g 34,g 35,g 36,g 37,g 38,g 39,g 40,g 41,g 42,g 43,g 44,g 45,g 46,g 47,g 48,g 49,g 50,g 51,g 52,g 53,g 54,g 55,g 56,g 57,g 58,g 59,g 60,g 61,g 62,g 63,g 64,g 65,g 66,.slice pa la ca,xa,own,.int .i64 n,.int .i64 wk,g 72,g 73,g 74,g 75,g 76,g 77,g 78,g 79,g 80,g 81,g 82,g 83,g 84,g 85,g 86,g 87,g 88,g 89,g 90,g 91,g 92,g 93,g 94,g 95,g 96,g 97,g 98,g 99,g 100,g 101,g 102,g 103,g 104,g 105,g 106,g 107,g 108,g 109,g 110,g 111,g 112,g 113,g 114,g 115,g 116,g 117,g 118,g 119,g 120,g 121,g 122,g 123,g 124,g 125,g 126,g 127,g 128,g 129,g 130,g 131,g 132,g 133,g 134,g 135,g 136,g 137,g 138,g 139,g 140,g 141,g 142,g 143,g 144]
noncomputable def tM4 (pa p:Option Addr)(la ca N c:Nat)(n wk:Int)(own:Value)(g:Nat→Value)(xa u:Value):Array Value:=#[.slice pa la ca,.slice p N c,.int .i64 n,.int .i64 wk,g 4,g 5,g 6,g 7,g 8,g 9,own,g 11,g 12,g 13,g 14,g 15,g 16,g 17,g 18,g 19,g 20,g 21,g 22,g 23,g 24,g 25,g 26,g 27,g 28,g 29,g 30,g 31,g 32,g 33,g 34,g 35,g 36,g 37,g 38,g 39,g 40,g 41,g 42,g 43,g 44,g 45,g 46,g 47,g 48,g 49,g 50,g 51,g 52,g 53,g 54,g 55,g 56,g 57,g 58,g 59,g 60,g 61,g 62,g 63,g 64,g 65,g 66,.slice pa la ca,xa,own,.int .i64 n,.int .i64 wk,u,g 73,g 74,g 75,g 76,g 77,g 78,g 79,g 80,g 81,g 82,g 83,g 84,g 85,g 86,g 87,g 88,g 89,g 90,g 91,g 92,g 93,g 94,g 95,g 96,g 97,g 98,g 99,g 100,g 101,g 102,g 103,g 104,g 105,g 106,g 107,g 108,g 109,g 110,g 111,g 112,g 113,g 114,g 115,g 116,g 117,g 118,g 119,g 120,g 121,g 122,g 123,g 124,g 125,g 126,g 127,g 128,g 129,g 130,g 131,g 132,g 133,g 134,g 135,g 136,g 137,g 138,g 139,g 140,g 141,g 142,g 143,g 144]
theorem arr_lit (t:Array Value){n:Nat}(h:t.size=n):t=((List.range n).map fun i=>t.getD i undef).toArray:=by
 apply Array.ext_getElem?
 intro i
 subst h
 simp only[List.getElem?_toArray,List.getElem?_map]
 by_cases hi:i<t.size
 ·simp[List.getElem?_range hi,hi]
 ·rw[Array.getElem?_eq_none (by omega),List.getElem?_eq_none (by simpa using hi)]
  rfl
theorem tM_of (pa p:Option Addr)(la ca N c:Nat)(n wk:Int)(own:Value){t:Array Value}(h:t.size=145)(h0:t.getD 0 undef=.slice pa la ca)(h1:t.getD 1 undef=.slice p N c)(h2:t.getD 2 undef=.int .i64 n)(h3:t.getD 3 undef=.int .i64 wk)(h10:t.getD 10 undef=own):t=tM pa p la ca N c n wk own (fun i=>t.getD i undef):=by
 have e:=arr_lit t h
 generalize hg:(fun i=>t.getD i undef)=g at e
 have g0:g 0=.slice pa la ca:=by rw[←hg];exact h0
 have g1:g 1=.slice p N c:=by rw[←hg];exact h1
 have g2:g 2=.int .i64 n:=by rw[←hg];exact h2
 have g3:g 3=.int .i64 wk:=by rw[←hg];exact h3
 have g10:g 10=own:=by rw[←hg];exact h10
 unfold tM
 rw[←g0,←g1,←g2,←g3,←g10]
 exact e
theorem rep3 (pa p:Option Addr)(la ca N c:Nat)(n wk:Int):(#[.slice pa la ca,.slice p N c,.int .i64 n,.int .i64 wk]++Array.replicate 141 undef:Array Value)=tB0 pa p la ca N c n wk:=by
 unfold tB0
 rw[←Array.toList_inj]
 simp[List.replicate]
theorem enter3 (pa p:Option Addr)(la ca N c:Nat)(n wk:Int):Frame.enter PP 3 #[.slice pa la ca,.slice p N c,.int .i64 n,.int .i64 wk] .normal=Fm 3 (tB0 pa p la ca N c n wk) [.code (Tryz.f3.body.getD .skip)] .run:=by
 have h1:PP.funcs[3]?=some Tryz.f3:=Tryz.func3
 have h2:Tryz.f3.ntmps=145:=by kernel_rfl
 have h3:Tryz.f3.body=some (Tryz.f3.body.getD .skip):=by kernel_rfl
 rw[←rep3]
 generalize hb:Tryz.f3.body.getD .skip=bd at h3
 unfold Frame.enter
 rw[h1]
 simp only[Option.map_some,Option.getD_some,Option.bind_some,h2,h3]
 rfl
section
variable {B:World→Prop} {Ev:Event→Prop} {cs:List Frame}
noncomputable def frA3 (pa p:Option Addr)(la ca N c:Nat)(n wk:Int):Frame:=Fm 3 (tB1 pa p la ca N c n wk) [.inRegion opsA3 [0,1],.code restA3] .run
set_option maxRecDepth 100000 in
set_option maxHeartbeats 8000000 in
theorem toA3 (pa p:Option Addr)(la ca N c:Nat)(n wk:Int):To PP true B Ev (fun g=>g=Gr (Frame.enter PP 5 #[] .normal) (frA3 pa p la ca N c n wk :: cs)) (Gr (Frame.enter PP 3 #[.slice pa la ca,.slice p N c,.int .i64 n,.int .i64 wk] .normal) cs):=by
 rw[enter3]
 show To PP true B Ev _ (S3 cs (tB0 pa p la ca N c n wk) [.code (Tryz.f3.body.getD .skip)])
 simp only[frA3,tB0,tB1,S3,opsA3,restA3,Tryz.f3,Option.getD_some]
 refine To.ctl rfl (fun _ _=>stepG_seq) ?_
 refine To.ctl rfl (fun _ _=>stepG_region) ?_;simp only[List.size_toArray,List.length_cons,List.length_nil,Nat.reduceAdd,Nat.zero_add,List.range,List.range.loop]
 refine To.value _ rfl rfl (by k_ne) (fun _ _=>by go_simp<;>rfl) (fun _ _=>by first|(simp[go_sem];done)) ?_;walk_nrm
 refine To.ctl rfl (fun _ _=>stepG_region_end) ?_
 refine To.ctl rfl (fun _ _=>stepG_seq) ?_
 refine To.ctl rfl (fun _ _=>stepG_region) ?_;simp only[List.size_toArray,List.length_cons,List.length_nil,Nat.reduceAdd,Nat.zero_add,List.range,List.range.loop]
 refine To.call rfl rfl (by k_ne) rfl Tryz.func5 (by kernel_rfl) (show Tryz.f5.body=some (Tryz.f5.body.getD .skip) from by kernel_rfl) ?_
 refine To.nil ?_
 rw[enter5]
 have h2:Tryz.f5.ntmps=18:=by kernel_rfl
 generalize Tryz.f5.body.getD .skip=bd
 rw[h2]
 simp only[List.map_toArray,List.map_cons,List.map_nil,List.size_toArray,List.length_cons,List.length_nil,Nat.reduceAdd,Nat.reduceSub,Nat.sub_zero]
 rw[rep18]
 rfl
set_option maxRecDepth 100000 in
theorem frA3_finish (pa p:Option Addr)(la ca N c:Nat)(n wk:Int):(frA3 pa p la ca N c n wk).finish (.bool true)=Fm 3 (tB2 pa p la ca N c n wk) [.inRegion opsA3 [1],.code restA3] .run:=by
 have:=Frame.finish_at (b:=base 3) (a:=⟨tB1 pa p la ca N c n wk,[]⟩) (ops:=opsA3) (i:=0) (rest:=[1]) (k:=[.code restA3]) (v:=.bool true)
 refine this.trans ?_
 rfl
set_option maxRecDepth 100000 in
set_option maxHeartbeats 8000000 in
theorem toB3 (pa p:Option Addr)(la ca N c:Nat)(n wk:Int):To PP true B Ev (fun g=>g=Gr (Fm 3 (tB3 pa p la ca N c n wk) [.code restA3] .run) cs) (Gr (Fm 3 (tB2 pa p la ca N c n wk) [.inRegion opsA3 [1],.code restA3] .run) cs):=by
 show To PP true B Ev _ (S3 cs (tB2 pa p la ca N c n wk) [.inRegion opsA3 [1],.code restA3])
 simp only[tB2,tB3,S3,opsA3,restA3,Tryz.f3,Option.getD_some]
 refine To.value _ rfl rfl (by k_ne) (fun _ _=>by go_simp<;>rfl) (fun _ _=>by first|(simp[go_sem];done)) ?_;walk_nrm
 refine To.ctl rfl (fun _ _=>stepG_region_end) ?_
 exact To.nil rfl
noncomputable def frB3 (pa p:Option Addr)(la ca N c:Nat)(n wk:Int)(own:Value)(g:Nat→Value):Frame:=Fm 3 (tM1 pa p la ca N c n wk own g) [.inRegion opsD3 [1,2,3,4,5,6,7,8,9,10],.code restE3] .run
set_option maxRecDepth 100000 in
set_option maxHeartbeats 8000000 in
theorem toC3 (pa p:Option Addr)(la ca N c:Nat)(n wk:Int)(own:Value)(g:Nat→Value):To PP true B Ev (fun x=>x=Gr (Frame.enter PP 7 #[.slice pa la ca] .normal) (frB3 pa p la ca N c n wk own g :: cs)) (Gr (Fm 3 (tM pa p la ca N c n wk own g) [.code restD3] .run) cs):=by
 show To PP true B Ev _ (S3 cs (tM pa p la ca N c n wk own g) [.code restD3])
 simp only[frB3,tM,tM1,S3,opsD3,restD3,restE3,restA3,Tryz.f3,Option.getD_some]
 refine To.ctl rfl (fun _ _=>stepG_seq) ?_
 refine To.ctl rfl (fun _ _=>stepG_region) ?_;simp only[List.size_toArray,List.length_cons,List.length_nil,Nat.reduceAdd,Nat.zero_add,List.range,List.range.loop]
 refine To.value _ rfl rfl (by k_ne) (fun _ _=>by go_simp<;>rfl) (fun _ _=>by first|(simp[go_sem];done)) ?_;walk_nrm
 refine To.call rfl rfl (by k_ne) rfl Tryz.func7 (by kernel_rfl) (show Tryz.f7.body=some (Tryz.f7.body.getD .skip) from by kernel_rfl) ?_
 refine To.nil ?_
 have h1:PP.funcs[7]?=some Tryz.f7:=Tryz.func7
 have h3:Tryz.f7.body=some (Tryz.f7.body.getD .skip):=by kernel_rfl
 generalize Tryz.f7.body.getD .skip=bd at h3
 rw[enter_at _ h1 h3]
 simp only[List.map_toArray,List.map_cons,List.map_nil,List.size_toArray,List.length_cons,List.length_nil,Nat.reduceAdd]
 rfl
set_option maxRecDepth 100000 in
theorem frB3_finish (pa p:Option Addr)(la ca N c:Nat)(n wk:Int)(own:Value)(g:Nat→Value)(xa:Value):(frB3 pa p la ca N c n wk own g).finish xa=Fm 3 (tM2 pa p la ca N c n wk own g xa) [.inRegion opsD3 [2,3,4,5,6,7,8,9,10],.code restE3] .run:=by
 have:=Frame.finish_at (b:=base 3) (a:=⟨tM1 pa p la ca N c n wk own g,[]⟩) (ops:=opsD3) (i:=1) (rest:=[2,3,4,5,6,7,8,9,10]) (k:=[.code restE3]) (v:=xa)
 refine this.trans ?_
 rfl
noncomputable def frC3 (pa p:Option Addr)(la ca N c:Nat)(n wk:Int)(own:Value)(g:Nat→Value)(xa:Value):Frame:=Fm 3 (tM3 pa p la ca N c n wk own g xa) [.inRegion opsD3 [5,6,7,8,9,10],.code restE3] .run
set_option maxRecDepth 100000 in
set_option maxHeartbeats 8000000 in
theorem toD3 (pa p:Option Addr)(la ca N c:Nat)(n wk:Int)(own:Value)(g:Nat→Value)(ho:∃q l r,own=.slice q l r)(xa:Value):To PP true B Ev (fun x=>x=Gr (Frame.enter PP 8 #[xa,own,.int .i64 n,.int .i64 wk] .normal) (frC3 pa p la ca N c n wk own g xa :: cs)) (Gr (Fm 3 (tM2 pa p la ca N c n wk own g xa) [.inRegion opsD3 [2,3,4,5,6,7,8,9,10],.code restE3] .run) cs):=by
 obtain⟨q,l,r,rfl⟩:=ho
 show To PP true B Ev _ (S3 cs (tM2 pa p la ca N c n wk (.slice q l r) g xa) [.inRegion opsD3 [2,3,4,5,6,7,8,9,10],.code restE3])
 simp only[frC3,tM2,tM3,S3,opsD3,restD3,restE3,restA3,Tryz.f3,Option.getD_some]
 refine To.value _ rfl rfl (by k_ne) (fun _ _=>by go_simp<;>rfl) (fun _ _=>by first|(simp[go_sem];done)) ?_;walk_nrm
 refine To.value _ rfl rfl (by k_ne) (fun _ _=>by go_simp<;>rfl) (fun _ _=>by first|(simp[go_sem];done)) ?_;walk_nrm
 refine To.value _ rfl rfl (by k_ne) (fun _ _=>by go_simp<;>rfl) (fun _ _=>by first|(simp[go_sem];done)) ?_;walk_nrm
 refine To.call rfl rfl (by k_ne) rfl Tryz.func8 (by kernel_rfl) (show Tryz.f8.body=some (Tryz.f8.body.getD .skip) from by kernel_rfl) ?_
 refine To.nil ?_
 rw[enter8]
 have h2:Tryz.f8.ntmps=25:=by kernel_rfl
 generalize Tryz.f8.body.getD .skip=bd
 rw[h2]
 simp only[List.map_toArray,List.map_cons,List.map_nil,List.size_toArray,List.length_cons,List.length_nil,Nat.reduceAdd,Nat.reduceSub]
 rw[rep21]
 rfl
set_option maxRecDepth 100000 in
theorem frC3_finish (pa p:Option Addr)(la ca N c:Nat)(n wk:Int)(own:Value)(g:Nat→Value)(xa u:Value):(frC3 pa p la ca N c n wk own g xa).finish u=Fm 3 (tM4 pa p la ca N c n wk own g xa u) (.inRegion opsD3 [6,7,8,9,10] :: [restE3].map Item.code) .run:=by
 have:=Frame.finish_at (b:=base 3) (a:=⟨tM3 pa p la ca N c n wk own g xa,[]⟩) (ops:=opsD3) (i:=5) (rest:=[6,7,8,9,10]) (k:=[.code restE3]) (v:=u)
 refine this.trans ?_
 rfl
end
theorem cutA3_c:CutC lx PP 3 restD3 (cutA3 .skip) restA3:=by
 simp only[cutA3,restA3,restD3,Tryz.f3,Option.getD_some]
 exact .seq (by decide +kernel) (.seq (by decide +kernel) (.seq (by decide +kernel) .here))
theorem cutA3_s:CutS lx PP 3 (cutA3 (.loop .skip)) restA3:=by
 simp only[cutA3,restA3,Tryz.f3,Option.getD_some]
 exact .seq (by decide +kernel) (.seq (by decide +kernel) (.seq (by decide +kernel) (.here _)))
theorem restE3_t:todoT lx PP 3 (.inRegion opsD3 [6,7,8,9,10] :: [restE3].map Item.code):=by
 intro x hx
 simp only[List.map_cons,List.map_nil,List.mem_cons,List.not_mem_nil,or_false] at hx
 rcases hx with rfl|rfl<;>decide +kernel
end Go.Proofs.YtjeicikflkjacaaGreatDoor.Sh
