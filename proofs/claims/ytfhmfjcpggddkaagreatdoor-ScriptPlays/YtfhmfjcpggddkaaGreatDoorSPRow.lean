/- ScriptPlays: for all lists the law answers true, if the landed packages keep their contracts. No condition but the row's own: the package variables that it lists begin as the program's text lays them (tied): what the landed packages ask of them is asked here (hE). -/
import Derived.Test.YtfhmfjcpggddkaaGreatDoorCards
import Derived.Test.YtfhmfjcpggddkaaGreatDoorTie
import Derived.Test.YtfhmfjcpggddkaaGreatDoorM47
import Derived.Test.YtfhmfjcpggddkaaGreatDoorSPWi
import Derived.Test.YtfhmfjcpggddkaaGreatDoorSPFa
import Derived.Test.YtfhmfjcpggddkaaGreatDoorM50
import Derived.ChangeSlices
namespace Go.Proofs.YtfhmfjcpggddkaaGreatDoor.scriptPlays
open Go.ChangeShapes Go.WideShapes Go.ChangeAt Go.RowKit
open Go.ChangeMaps (open_string shut_string)
set_option maxRecDepth 100000 in
theorem lifted (hS:World→ScriptC)(hnw:∀w,(hS w).nw=nwB)(hE:∀W,laidMetH Tryz.prog Rows.scriptPlaysRow.laid W→W.ShapedOpen Tryz.prog→∃a,(hS W).E a W∧Errs5 a W)(os:Os)(started:os.Started)(H:Type)(enc:TypeId × Value→H) :
  ReturnsInHanded {} Tryz.checked os 5 .any (fun w args=>(Rows.scriptPlaysSpec.pre enc Tryz.prog Tryz.f5 [] false w args∧laidMetH Tryz.prog Rows.scriptPlaysRow.laid w)∧sizedMet enc Tryz.prog Tryz.f5 (OpenSpec.ofChange Rows.scriptPlaysSpec) false w args)
   (Rows.scriptPlaysSpec.post enc Tryz.prog Tryz.f5 false true false false):=by
 refine returnsShaped (C:=Tryz.checked) (X:=fun w _=>laidMetH Tryz.prog Rows.scriptPlaysRow.laid w) (fun _ _ _ hh h=>h.of_heap hh) own started (by kernel_rfl) Tryz.func5
  (ChangeSpec.witness_shaped (enc:=enc) (C:=Tryz.checked) (os:=os) (X:=fun w _=>laidMetH Tryz.prog Rows.scriptPlaysRow.laid w) false (World.laidAll Tryz.prog os Rows.scriptPlaysRow.laid) #[.slice none 0 0] 8 (World.laidAll_os _ _ _) (start_shape os) (by as_aux_lemma=>kernel_rfl) (by as_aux_lemma=>kernel_rfl) (by as_aux_lemma=>kernel_rfl) (start_met os _)) ?_
 intro W base args ds gs before hval0 hW hL hSh
 have hval:∀(j:Nat) t v,Tryz.f5.params[j]?=some t→args[j]?=some v→Value.okWide Tryz.prog W .any base t v:=hval0
 have hW':=hW
 obtain⟨p,q,hA0,hV,rfl,hfz,hnd⟩:=hW
 have hA:DataW.TrodAll enc Tryz.prog W 0 (fun _=>true) true Tryz.f5.params.toList args.toList ds p:=hA0
 rw[Tryz.params5] at hA hval
 obtain⟨v0,d0,rfl,rfl,h0⟩:=trodAll_one hA
 obtain⟨rfl,rfl⟩:=trodVars_none hV
 obtain⟨lp,len0,lc,rfl⟩:=okWide_slice Tryz.underlying33 (hval 0 33 v0 rfl rfl)
 obtain⟨l,rfl,hla,hll0,hok⟩:∃l:List Ln,len0=l.length∧LnsAt W lp l∧l.length≤maxLen∧∀x∈l,LnOk x:=by
  obtain⟨fuel,hf⟩:=h0
  exact open_lns hf
 clear hA0 hval0
 simp only[List.append_nil] at hW'
 have hlt0:∀z∈p,z.block<W.heap.size:=fun z hz=>hW'.lt z (by simp[hz])
 obtain⟨a,he,he5⟩:=hE W hL hSh
 refine (plays_any (hS W) (hnw W) a lp lc l W he he5 hll0 hla hok).mono fun e W' ⟨he',hb⟩=>?_
 subst he'
 refine⟨_,rfl,_,_,_,[],p,[],by simpa using hW',?_,?_,?_,hb.frame _,fun h=>by cases h⟩
 ·exact trodAll_mk1 (shut_bool Tryz.underlying4 true)
 ·exact trodAll_mk1 (Below.trod laidOut (by kernel_rfl) (of_decide_eq_true (by kernel_rfl)) h0 hb hlt0)
 ·rfl
theorem said (hS:World→ScriptC)(hnw:∀w,(hS w).nw=nwB)(hE:∀W,laidMetH Tryz.prog Rows.scriptPlaysRow.laid W→W.ShapedOpen Tryz.prog→∃a,(hS W).E a W∧Errs5 a W):Rows.ScriptPlaysSaid :=
 OpenClaim.holds_of_wide 5 Tryz.f5 rfl rfl rfl rfl rfl rfl rfl ⟨rfl,rfl,rfl,rfl,rfl⟩ rfl rfl rfl rfl rfl (by kernel_rfl) Tryz.func5 closed
  (of_decide_eq_true (by kernel_rfl)) (by unfold Func.isWrapper;first|(rw[if_pos (by decide +kernel)];kernel_rfl)|(rw[if_neg (by decide +kernel)];exact⟨rfl,rfl⟩))
  (fun os started H enc _=>lifted hS hnw hE os started H enc)
theorem plain (b : Bool) (hb : b = Tryz.pinned.checked.prog.looks []) (f : FuncId) (fn : Func) (hf : Tryz.pinned.checked.prog.funcNamed "levelhand/levelhandlaw3.ScriptPlays" = some f) (hfn : Tryz.pinned.checked.prog.funcs[f]? = some fn) :
  b=Tryz.pinned.checked.prog.looks []∧∀(j:Nat) t,fn.params[j]?=some t→Tryz.pinned.checked.prog.wantsStandIn t=false:=by
 obtain rfl : f = 5 := Option.some.inj ((show Tryz.prog.funcNamed "levelhand/levelhandlaw3.ScriptPlays" = some 5 by kernel_rfl).symm.trans hf) |>.symm
 obtain rfl:fn=Tryz.f5:=(Option.some.inj (Tryz.func5.symm.trans hfn)).symm
 refine⟨hb,fun j t ht=>?_⟩
 rw[Tryz.params5] at ht
 have hm:t=33:=by
  have hmem:=Array.mem_of_getElem? ht
  simp only[List.mem_toArray,List.mem_cons,List.not_mem_nil,or_false] at hmem
  exact hmem
 subst hm
 exact (show Tryz.prog.wantsStandIn 33=false by kernel_rfl)
theorem card (hS:World→ScriptC)(hnw:∀w,(hS w).nw=nwB)(hE:∀W,laidMetH Tryz.prog Rows.scriptPlaysRow.laid W→W.ShapedOpen Tryz.prog→∃a,(hS W).E a W∧Errs5 a W):Rows.ScriptPlaysCardSaid :=
 Claim7.holds_tied_plain_at .later [] _ _ _ _ (said hS hnw hE) (fun _ h=>by cases h) (by kernel_rfl) (fun _ h=>by cases h) scriptPlays_row_tie rfl ⟨rfl,rfl⟩ (by kernel_rfl) rfl (plain _ (by kernel_rfl)) (by kernel_rfl)
end Go.Proofs.YtfhmfjcpggddkaaGreatDoor.scriptPlays
