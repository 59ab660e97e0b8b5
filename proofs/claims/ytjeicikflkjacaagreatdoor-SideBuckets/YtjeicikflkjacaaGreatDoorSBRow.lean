/- SideBuckets holds of the landed code: for all lists of keys, all numbers and all counts of workers the law answers true, on every schedule, without a data race, and every goroutine that it started has ended or is only leaving. No condition but the row's own: ten package variables begin as the program's text lays them (tied). -/
import Derived.Test.YtjeicikflkjacaaGreatDoorCards
import Derived.Test.YtjeicikflkjacaaGreatDoorTie
import Derived.Test.YtjeicikflkjacaaGreatDoorM1
import Derived.Test.YtjeicikflkjacaaGreatDoorSdRow
namespace Go.Proofs.YtjeicikflkjacaaGreatDoor.sideBuckets
open Go.ChangeShapes Go.WideShapes Go.ChangeAt Go.RowKit
open Go.Conc
theorem door_met (os:Os)(args:Array Value):laidMetH Tryz.prog Rows.sideBucketsRow.laid ((World.doorLaid Tryz.prog 187 os).forCall (fun _ _=>0) ⟨#[],args,[]⟩).memory :=
 laidMetH_of_parts3 (fuel:=8) (laidMet_of_run' 8 (by kernel_rfl) (by kernel_rfl)) (by kernel_rfl) (by kernel_rfl)
set_option maxRecDepth 100000 in
theorem lifted (os:Os)(started:os.Started)(H:Type)(enc:TypeId × Value→H) :
  ReturnsInLeavingWide {} Tryz.checked os 4 .any (fun w args=>(Rows.sideBucketsSpec.pre enc Tryz.prog Tryz.f4 [] false w args∧laidMetH Tryz.prog Rows.sideBucketsRow.laid w)∧sizedMet enc Tryz.prog Tryz.f4 (OpenSpec.ofChange Rows.sideBucketsSpec) false w args)
   (Rows.sideBucketsSpec.post enc Tryz.prog Tryz.f4 false true false false):=by
 refine returnsInLeavingWide_of_good own started
  (ChangeSpec.witness_shaped (enc:=enc) (C:=Tryz.checked) (os:=os) (X:=fun w _=>laidMetH Tryz.prog Rows.sideBucketsRow.laid w) false (World.doorLaid Tryz.prog 187 os) #[.slice none 0 0,.int .i64 0,.int .i64 0] 8 rfl (World.shaped_of_RefB (by kernel_rfl) (by kernel_rfl)) (by kernel_rfl) (by kernel_rfl) (by kernel_rfl) (door_met os _)) ?_
 intro w tape i _ hsh _ hok hpre _
 obtain⟨_,_,_,fn',hfn',_,_,_,_,hval0⟩:=hok
 have e:fn'=Tryz.f4:=Option.some.inj (hfn'.symm.trans Tryz.func4)
 subst e
 obtain⟨⟨⟨ds,gs,before,hw,_⟩,hx⟩,_⟩:=hpre
 have hW:=DataW.Whole.of_heap (w':=w.forCall tape i) (by rfl) hw
 have hL:laidMetH Tryz.prog Rows.sideBucketsRow.laid (w.forCall tape i):=hx.of_heap (by rfl)
 generalize w.forCall tape i=W at *
 generalize i.args=args at *
 have hW':=hW
 obtain⟨p,q,hA0,hV,rfl,hfz,hnd⟩:=hW
 have hval:∀(j:Nat) t v,Tryz.f4.params[j]?=some t→args[j]?=some v→Value.okWide Tryz.prog W .any _ t v:=hval0
 have hA:DataW.TrodAll enc Tryz.prog W 0 (fun _=>true) true Tryz.f4.params.toList args.toList ds p:=hA0
 rw[Tryz.params4] at hA hval
 obtain⟨v0,v1,v2,d0,d1,d2,p0,p1,p2,rfl,rfl,rfl,h0,h1,h2⟩:=trodAll_three hA
 obtain⟨rfl,rfl⟩:=trodVars_none hV
 obtain⟨a0,len,cap,hv0⟩:=okWide_slice Tryz.underlying41 (hval 0 41 v0 rfl rfl)
 obtain⟨x,rfl,rfl,rfl,wx⟩:=open_int Tryz.underlying3 (hval 1 3 v1 rfl rfl) h1
 obtain⟨y,rfl,rfl,rfl,wy⟩:=open_int Tryz.underlying3 (hval 2 3 v2 rfl rfl) h2
 obtain⟨ks,hks,-,hkl⟩:∃ks:List Nat,Keys1 W v0 ks∧(∀k (h:k<ks.length),ks[k]<18446744073709551616)∧ks.length≤maxLen:=by
  obtain⟨fuel,hf⟩:=h0
  subst hv0
  exact open_keys1 rfl hf
 clear hA0 hval0
 simp only[List.append_nil] at hW'
 have hlt:∀z∈p0,z.block<W.heap.size:=fun z hz=>hW'.lt z (by simp[hz])
 obtain⟨a,he⟩:=errs_of_api hL
 have hK:Keys1 (Sh.veil (fun _=>False) W) v0 ks:=by
  rcases hks with h|⟨b,o,c,g1,g2,g3⟩
  ·exact .inl h
  ·exact .inr ⟨b,o,c,g1,g2,fun k hk=>(Sh.seen_veil W).cell (g3 k hk)⟩
 obtain⟨M,last,o,w',t',r1,r2,r3,hG⟩:=Sh.run_of_ends (Sh.sideBuckets_ends a v0 ks x y (Sh.errs_seen he (Sh.seen_veil W)) hK (by rw[Sh.veil_size];exact Sh.globals_low hsh))
 refine⟨M,last,o,w',t',r1,r2,r3,hG.mono ?_⟩
 rintro u ⟨rfl,hb⟩
 refine ChangeSpec.post_blind (W:=W) (W':=Par.on w' W.tape w'.drawn) ?_
 refine⟨_,_,_,[],p0++([]++[]),[],hW',?_,?_,?_,hb.frame _,fun h=>by cases h⟩
 ·exact trodAll_mk1 (shut_bool Tryz.underlying4 true)
 ·exact trodAll_mk3 (Below.trod laidOut (by kernel_rfl) (of_decide_eq_true (by kernel_rfl)) h0 hb hlt) (shut_int Tryz.underlying3 wx) (shut_int Tryz.underlying3 wy)
 ·rfl
theorem said:Rows.SideBucketsSaid :=
 OpenClaim.holds_of_wide_leaving 4 Tryz.f4 rfl rfl rfl rfl rfl rfl rfl ⟨rfl,rfl,rfl,rfl,rfl⟩ rfl rfl rfl rfl rfl (by kernel_rfl) Tryz.func4 (by kernel_rfl)
  (of_decide_eq_true (by kernel_rfl)) (by unfold Func.isWrapper;first|(rw[if_pos (by decide +kernel)];kernel_rfl)|(rw[if_neg (by decide +kernel)];exact⟨rfl,rfl⟩))
  (fun os started H enc _=>lifted os started H enc)
theorem plain (f : FuncId) (fn : Func) (hf : Tryz.pinned.checked.prog.funcNamed "levelhand/levelhandlaw3.SideBuckets" = some f) (hfn : Tryz.pinned.checked.prog.funcs[f]? = some fn) :
  true=Tryz.pinned.checked.prog.looks []∧∀(j:Nat) t,fn.params[j]?=some t→Tryz.pinned.checked.prog.wantsStandIn t=false:=by
 obtain rfl : f = 4 := Option.some.inj ((show Tryz.prog.funcNamed "levelhand/levelhandlaw3.SideBuckets" = some 4 by kernel_rfl).symm.trans hf) |>.symm
 obtain rfl:fn=Tryz.f4:=(Option.some.inj (Tryz.func4.symm.trans hfn)).symm
 refine⟨by kernel_rfl,fun j t ht=>?_⟩
 rw[Tryz.params4] at ht
 have hm:t=41∨t=3:=by
  have hmem:=Array.mem_of_getElem? ht
  simp only[List.mem_toArray,List.mem_cons,List.not_mem_nil,or_false] at hmem
  rcases hmem with h|h|h<;>simp[h]
 rcases hm with rfl|rfl
 ·exact (show Tryz.prog.wantsStandIn 41=false by kernel_rfl)
 ·exact (show Tryz.prog.wantsStandIn 3=false by kernel_rfl)
theorem card:Rows.SideBucketsCardSaid :=
 Sh.holds_tied_goes .later _ _ _ _ said (by kernel_rfl) sideBuckets_row_tie rfl ⟨rfl,rfl⟩ (by kernel_rfl) rfl plain (by kernel_rfl)
end Go.Proofs.YtjeicikflkjacaaGreatDoor.sideBuckets
namespace Go.Proofs.YtjeicikflkjacaaGreatDoor
theorem sideBuckets_holds:Rows.SideBucketsCardSaid:=sideBuckets.card
end Go.Proofs.YtjeicikflkjacaaGreatDoor
