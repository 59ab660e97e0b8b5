/- SideMoves holds of the landed code: for all hosts, all lists of hosts, all sizes and all counts of workers the law answers true, on every schedule, without a data race, and every goroutine that it started has ended or is only leaving. No condition but the row's own: ten package variables begin as the program's text lays them (tied). -/
import Derived.Test.YtjeicikflkjacaaGreatDoorCards
import Derived.Test.YtjeicikflkjacaaGreatDoorTie
import Derived.Test.YtjeicikflkjacaaGreatDoorM1
import Derived.Test.YtjeicikflkjacaaGreatDoorM50
import Derived.Test.YtjeicikflkjacaaGreatDoorSdRow
import Derived.Deep.Slices
namespace Go.Proofs.YtjeicikflkjacaaGreatDoor.sideMoves
open Go.ChangeShapes Go.WideShapes Go.ChangeAt Go.RowKit
open Go.Conc
theorem cellsLt:Tryz.prog.cellsOf 22=1:=by kernel_rfl
theorem open_textsL {H:Type}{enc:TypeId × Value→H}{W:World}{v:Value}{fuel:Nat}{x:DataW H × List MemPlace}
  (hf:DataW.trod enc Tryz.prog W 0 (fun _=>true) true fuel 22 [v]=some x):∃xs:List ByteArray,Strs1 W v xs∧(∀k (h:k<xs.length),(xs[k]).size≤maxLen)∧xs.length≤maxLen:=by
 obtain⟨a0,len,cap,rfl⟩:∃a0 len cap,v=.slice a0 len cap:=by
  rcases Go.Deep.open_slice Tryz.underlying22 hf with⟨hcs,_⟩|⟨a,len',cap',_,_,_,_,hcs,_⟩
  ·simp at hcs
   exact⟨_,_,_,hcs⟩
  ·simp at hcs
   exact⟨_,_,_,hcs⟩
 exact open_texts rfl hf
theorem open_lists {H:Type}{enc:TypeId × Value→H}{W:World}{fuel:Nat}{x:DataW H × List MemPlace}{a0:Option Addr}{len cap:Nat}
  (hf:DataW.trod enc Tryz.prog W 0 (fun _=>true) true fuel 23 [.slice a0 len cap]=some x) :
  ∃(lv:Nat→Value) (ys:Nat→List ByteArray),Sh.LAt W a0 len lv ys∧∀i,i<len→(∀k (h:k<(ys i).length),((ys i)[k]).size≤maxLen)∧(ys i).length≤maxLen:=by
 rcases Go.Deep.open_slice1 Tryz.underlying23 cellsLt hf with⟨hcs,_⟩|⟨a,len',cap',mm,n,V,D,Pl,hcs,_,hl,hm,hmm,_,hx⟩
 ·simp at hcs
  obtain⟨rfl,rfl,rfl⟩:=hcs
  exact⟨fun _=>undef,fun _=>[],fun i h=>absurd h (Nat.not_lt_zero _),fun i h=>absurd h (Nat.not_lt_zero _)⟩
 ·simp at hcs
  obtain⟨rfl,rfl,rfl⟩:=hcs
  simp only[if_true] at hmm
  have each:∀i,∃xs:List ByteArray,i<len→Strs1 W (V i) xs∧(∀k (h:k<xs.length),(xs[k]).size≤maxLen)∧xs.length≤maxLen:=fun i=>by
   by_cases hi:i<len
   ·obtain⟨xs,h⟩:=open_textsL (hx i (by omega)).2
    exact⟨xs,fun _=>h⟩
   ·exact⟨[],fun h=>absurd h hi⟩
  obtain⟨ys,hy⟩:=Classical.axiomOfChoice each
  obtain⟨b,off,spot⟩:=a
  refine⟨V,ys,fun i hi=>?_,fun i hi=>(hy i hi).2⟩
  have hspot:spot=none:=by
   have:=(hx 0 (by omega)).1
   simpa [Addr.add] using World.cell?_spot this
  subst hspot
  refine⟨b,off,rfl,?_,(hy i hi).1⟩
  have:=(hx i (by omega)).1
  rw[Addr.add_lit] at this
  exact this
theorem door_met (os:Os)(args:Array Value):laidMetH Tryz.prog Rows.sideMovesRow.laid ((World.doorLaid Tryz.prog 187 os).forCall (fun _ _=>0) ⟨#[],args,[]⟩).memory :=
 laidMetH_of_parts3 (fuel:=8) (laidMet_of_run' 8 (by kernel_rfl) (by kernel_rfl)) (by kernel_rfl) (by kernel_rfl)
set_option maxRecDepth 100000 in
theorem lifted (os:Os)(started:os.Started)(H:Type)(enc:TypeId × Value→H) :
  ReturnsInLeavingWide {} Tryz.checked os 3 .any (fun w args=>(Rows.sideMovesSpec.pre enc Tryz.prog Tryz.f3 [] false w args∧laidMetH Tryz.prog Rows.sideMovesRow.laid w)∧sizedMet enc Tryz.prog Tryz.f3 (OpenSpec.ofChange Rows.sideMovesSpec) false w args)
   (Rows.sideMovesSpec.post enc Tryz.prog Tryz.f3 false true false false):=by
 refine returnsInLeavingWide_of_good own started
  (ChangeSpec.witness_shaped (enc:=enc) (C:=Tryz.checked) (os:=os) (X:=fun w _=>laidMetH Tryz.prog Rows.sideMovesRow.laid w) false (World.doorLaid Tryz.prog 187 os) #[.slice none 0 0,.slice none 0 0,.int .i64 0,.int .i64 0] 8 rfl (World.shaped_of_RefB (by kernel_rfl) (by kernel_rfl)) (by kernel_rfl) (by kernel_rfl) (by kernel_rfl) (door_met os _)) ?_
 intro w tape i _ hsh _ hok hpre _
 obtain⟨_,_,_,fn',hfn',_,_,_,_,hval0⟩:=hok
 have e:fn'=Tryz.f3:=Option.some.inj (hfn'.symm.trans Tryz.func3)
 subst e
 obtain⟨⟨⟨ds,gs,before,hw,_⟩,hx⟩,_⟩:=hpre
 have hW:=DataW.Whole.of_heap (w':=w.forCall tape i) (by rfl) hw
 have hL:laidMetH Tryz.prog Rows.sideMovesRow.laid (w.forCall tape i):=hx.of_heap (by rfl)
 generalize w.forCall tape i=W at *
 generalize i.args=args at *
 have hW':=hW
 obtain⟨p,q,hA0,hV,rfl,hfz,hnd⟩:=hW
 have hval:∀(j:Nat) t v,Tryz.f3.params[j]?=some t→args[j]?=some v→Value.okWide Tryz.prog W .any _ t v:=hval0
 have hA:DataW.TrodAll enc Tryz.prog W 0 (fun _=>true) true Tryz.f3.params.toList args.toList ds p:=hA0
 rw[Tryz.params3] at hA hval
 obtain⟨v0,v1,v2,v3,d0,d1,d2,d3,p0,p1,p2,p3,rfl,rfl,rfl,h0,h1,h2,h3⟩:=trodAll_four hA
 obtain⟨rfl,rfl⟩:=trodVars_none hV
 obtain⟨a0,len,cap,hv0⟩:=okWide_slice Tryz.underlying22 (hval 0 22 v0 rfl rfl)
 obtain⟨a1,len1,cap1,hv1⟩:=okWide_slice Tryz.underlying23 (hval 1 23 v1 rfl rfl)
 obtain⟨x,rfl,rfl,rfl,wx⟩:=open_int Tryz.underlying3 (hval 2 3 v2 rfl rfl) h2
 obtain⟨y,rfl,rfl,rfl,wy⟩:=open_int Tryz.underlying3 (hval 3 3 v3 rfl rfl) h3
 obtain⟨xs,hst,hsz,hlen⟩:∃xs:List ByteArray,Strs1 W v0 xs∧(∀k (h:k<xs.length),(xs[k]).size≤maxLen)∧xs.length≤maxLen:=by
  obtain⟨fuel,hf⟩:=h0
  subst hv0
  exact open_texts rfl hf
 obtain⟨lv,ys,hls,hlz⟩:∃(lv:Nat→Value) (ys:Nat→List ByteArray),Sh.LAt W a1 len1 lv ys∧∀i,i<len1→(∀k (h:k<(ys i).length),((ys i)[k]).size≤maxLen)∧(ys i).length≤maxLen:=by
  obtain⟨fuel,hf⟩:=h1
  rw[hv1] at hf
  exact open_lists hf
 have bx:=bounds_i64 wx
 clear hA0 hval0
 simp only[List.append_nil] at hW'
 have hlt0:∀z∈p0,z.block<W.heap.size:=fun z hz=>hW'.lt z (by simp[hz])
 have hlt1:∀z∈p1,z.block<W.heap.size:=fun z hz=>hW'.lt z (by simp[hz])
 obtain⟨a,he⟩:=errs_of_api hL
 have hE:=Sh.sideMoves_ends a v0 a1 len1 cap1 xs lv ys x y (Sh.errs_seen he (Sh.seen_veil W)) (Sh.strs1_seen hst (Sh.seen_veil W)) hsz hlen (Sh.lat_seen hls (Sh.seen_veil W)) hlz bx (by rw[Sh.veil_size];exact Sh.globals_low hsh)
 rw[←hv1] at hE
 obtain⟨M,last,o,w',t',r1,r2,r3,hG⟩:=Sh.run_of_ends hE
 refine⟨M,last,o,w',t',r1,r2,r3,hG.mono ?_⟩
 rintro u ⟨rfl,hb⟩
 refine ChangeSpec.post_blind (W:=W) (W':=Par.on w' W.tape w'.drawn) ?_
 refine⟨_,_,_,[],p0++(p1++([]++[])),[],hW',?_,?_,?_,hb.frame _,fun h=>by cases h⟩
 ·exact trodAll_mk1 (shut_bool Tryz.underlying4 true)
 ·exact trodAll_mk4 (Below.trod laidOut (by kernel_rfl) (of_decide_eq_true (by kernel_rfl)) h0 hb hlt0) (Below.trod laidOut (by kernel_rfl) (of_decide_eq_true (by kernel_rfl)) h1 hb hlt1) (shut_int Tryz.underlying3 wx) (shut_int Tryz.underlying3 wy)
 ·rfl
theorem said:Rows.SideMovesSaid :=
 OpenClaim.holds_of_wide_leaving 3 Tryz.f3 rfl rfl rfl rfl rfl rfl rfl ⟨rfl,rfl,rfl,rfl,rfl⟩ rfl rfl rfl rfl rfl (by kernel_rfl) Tryz.func3 (by kernel_rfl)
  (of_decide_eq_true (by kernel_rfl)) (by unfold Func.isWrapper;first|(rw[if_pos (by decide +kernel)];kernel_rfl)|(rw[if_neg (by decide +kernel)];exact⟨rfl,rfl⟩))
  (fun os started H enc _=>lifted os started H enc)
theorem plain (f : FuncId) (fn : Func) (hf : Tryz.pinned.checked.prog.funcNamed "levelhand/levelhandlaw3.SideMoves" = some f) (hfn : Tryz.pinned.checked.prog.funcs[f]? = some fn) :
  true=Tryz.pinned.checked.prog.looks []∧∀(j:Nat) t,fn.params[j]?=some t→Tryz.pinned.checked.prog.wantsStandIn t=false:=by
 obtain rfl : f = 3 := Option.some.inj ((show Tryz.prog.funcNamed "levelhand/levelhandlaw3.SideMoves" = some 3 by kernel_rfl).symm.trans hf) |>.symm
 obtain rfl:fn=Tryz.f3:=(Option.some.inj (Tryz.func3.symm.trans hfn)).symm
 refine⟨by kernel_rfl,fun j t ht=>?_⟩
 rw[Tryz.params3] at ht
 have hm:t=22∨t=23∨t=3:=by
  have hmem:=Array.mem_of_getElem? ht
  simp only[List.mem_toArray,List.mem_cons,List.not_mem_nil,or_false] at hmem
  rcases hmem with h|h|h|h<;>simp[h]
 rcases hm with rfl|rfl|rfl
 ·exact (show Tryz.prog.wantsStandIn 22=false by kernel_rfl)
 ·exact (show Tryz.prog.wantsStandIn 23=false by kernel_rfl)
 ·exact (show Tryz.prog.wantsStandIn 3=false by kernel_rfl)
theorem card:Rows.SideMovesCardSaid :=
 Sh.holds_tied_goes .later _ _ _ _ said (by kernel_rfl) sideMoves_row_tie rfl ⟨rfl,rfl⟩ (by kernel_rfl) rfl plain (by kernel_rfl)
end Go.Proofs.YtjeicikflkjacaaGreatDoor.sideMoves
namespace Go.Proofs.YtjeicikflkjacaaGreatDoor
theorem sideMoves_holds:Rows.SideMovesCardSaid:=sideMoves.card
end Go.Proofs.YtjeicikflkjacaaGreatDoor
