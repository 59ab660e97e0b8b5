/- From 'it ends so' to a row's run: how it begins alone, what stands in memory at the end. -/
import Derived.Test.YtjeicikflkjacaaGreatDoorM48
import Derived.Test.YtjeicikflkjacaaGreatDoorM0
import Derived.Conc.LeavingOf
import Derived.SevenTiedAt
set_option linter.unusedSimpArgs false
set_option linter.unusedVariables false
namespace Go.Proofs.YtjeicikflkjacaaGreatDoor.Sh
open Go Go.Conc Go.Conc.Lib Go.RowKit Go.ConcN
open Ms Po
open Par (Fm Gr on stopper LocIn)
theorem globals_low {W:World}(h:W.ShapedOpen PP):PP.globals.size≤W.heap.size:=by
 obtain⟨o,_,h1,_⟩:=h.2 PP.globals.size (Nat.le_refl _) (of_decide_eq_true (by kernel_rfl))
 exact Nat.le_of_lt (Array.getElem?_eq_some_iff.1 h1).1
theorem mid_none (g:Goroutine)(W:World):Mid (fun _=>False) #[g] W #[] (fun _=>0):=by
 refine⟨⟨fun i x hi hx=>?_,fun j _=>rfl⟩,⟨past_nil.clean,fun i x h hm=>(past_nil.known i x h hm).imp id fun q=>q.1.elim,past_nil.over,past_nil.hears,fun op h=>by simp at h⟩,fun b h=>h.elim⟩
 have:=(Array.getElem?_eq_some_iff.1 hx).1
 simp at this
 omega
theorem seen_veil (W:World):SeenIn W (veil (fun _=>False) W):=fun b x e f h=>veil_row h id
theorem keep_real {W w' v':World}{Zg':Nat→Prop}{τ':Nat→Question→Nat}{d':Nat}(hk:Keep (fun _=>False) W Zg' w')(hv:veil Zg' w'=on v' τ' d')(hb:Bel (veil (fun _=>False) W).heap.size (veil (fun _=>False) W) v'):Below W.heap.size W (on w' W.tape w'.drawn):=by
 have os1:(veil Zg' w').os=(on v' τ' d').os:=by rw[hv]
 have os2:(veil Zg' w').output=(on v' τ' d').output:=by rw[hv]
 refine⟨os1.trans hb.os,rfl,os2.trans hb.output,hk.size,fun b hlt=>?_⟩
 show w'.heap[b]?=W.heap[b]?
 by_cases hz:(zsOf (fun _=>False) W).z b
 ·exact hk.win b hz
 ·have hz':¬(zsOf Zg' w').z b:=fun q=>hz ((hk.z b hlt).1 q)
  have h1:(veil (fun _=>False) W).heap[b]?=W.heap[b]?:=by
   rw[veil_get]
   cases W.heap[b]? with
   | none=>rfl
   | some o=>simp[hz]
  have h2:(veil Zg' w').heap[b]?=w'.heap[b]?:=by
   rw[veil_get]
   cases w'.heap[b]? with
   | none=>rfl
   | some o=>simp[hz']
  have h3:v'.heap[b]?=(veil Zg' w').heap[b]?:=by rw[hv]
  rw[←h2,←h3,←h1]
  exact hb.block b (by rw[veil_size];exact hlt)
theorem run_of_ends {f:FuncId}{args:Array Value}{W:World}(h:Ends (Gr (Frame.enter PP f args .normal) []) (veil (fun _=>False) W) (Yea (veil (fun _=>False) W))) :
  ∃M last o w' t',runNT PP (M+1) (solo (G (Frame.enter PP f args .normal) []) W) #[]=(.ended o w',t')∧runN PP M (solo (G (Frame.enter PP f args .normal) []) W)=.next last∧step PP last=.ended o w' ∧
   Go.Conc.Good PP (fun u w'=>u=.bool true∧Below W.heap.size W (on w' W.tape w'.drawn)) last o w' t':=by
 obtain⟨N,last,o,w',t',h1,h2,h3,u,ho,⟨Zg',v',τ',d',hk,hv,hu,hb⟩,rest⟩:=h (fun _=>False) #[Gr (Frame.enter PP f args .normal) []] W none #[] (fun _=>0) W.tape W.drawn (mid_none _ W) rfl rfl
 exact⟨N,last,o,w',t',h1,h2,h3,u,ho,⟨hu,keep_real hk hv hb⟩,rest⟩
theorem holds_tied_goes (Lk:Looks){p:Pinned}{s:OpenSpec}{c:OpenClaim}(kinds:List LaidKind)(tests:Bool)(har:Bool × String)(lk:Bool)
  (hc:c.holds p s) (hw:c.wfByText s=true) (htie:c.laidByTextAt Lk p kinds tests)
  (hst:c.start=.entering) (hnb:c.noBlocks=false∧c.again=false) (hm:p.checked.prog.mainIs=some (har.1,har.2.toList)) (hn:(!har.1 && har.2.isEmpty && !lk)=false)
  (hl:∀f fn,p.checked.prog.funcNamed c.func=some f→p.checked.prog.funcs[f]?=some fn→lk=p.checked.prog.looks []∧∀(j:Nat) t,fn.params[j]?=some t→p.checked.prog.wantsStandIn t=false)
  (hg:true=c.goesBy p.checked.prog) :
  Claim7.holds p (.plain s) { stood:={ row:=c,standIns:=[],harness:=har,looks:=lk },kinds:=[],alts:=[],goes:=true,laidByText:=true,laidKinds:=kinds,laidTests:=tests,laidLooks:=Lk }:=by
 have h6:Claim7.isSixth { stood:={ row:=c,standIns:=[],harness:=har,looks:=lk },kinds:=[] }=false:=by simpa [Claim7.isSixth] using hn
 have h:=Claim7.tied_new_at Lk kinds tests (Claim7.new_of_sixth hc har lk hst hnb hm h6 hl) hw
 refine⟨?_,fun D hD=>(by cases hD),htie,(fun h=>by cases h),hg⟩
 obtain⟨h0,rest⟩:=h
 exact⟨h0,rest⟩
end Go.Proofs.YtjeicikflkjacaaGreatDoor.Sh
