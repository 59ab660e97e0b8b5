/- A run in company: the functions that table.Moves and jump.Bucket reach. -/
import Derived.Test.YtjeicikflkjacaaGreatDoorM22
import Derived.Test.YtjeicikflkjacaaGreatDoorProg
import GoSem.Dispatch
import Derived.Conc.CrowdSel
import Derived.Laws.Sem
import Derived.Test.YtjeicikflkjacaaGreatDoorM12
namespace Go.Proofs.YtjeicikflkjacaaGreatDoor.Par
open Go
def wkL:List Nat:=[11,17,20,27,25,29,30,48,34,35,36,37,40,75,76,79,78,107,101,49,50,87,88,89,99,100,108,77,103,104,90,91,92,93,94,95,96,97,98,102,105,106,109]
def wkG:List Nat:=[0,1,4,2,5]
def wkOk (f:Nat):Bool:=wkL.contains f
def wkGl (g:Nat):Bool:=wkG.contains g
def fnB (P:Program)(f:Nat):Bool:=match P.funcs[f]? with
 | some fn => (match fn.body with | some c => codeB P wkOk wkGl c | none => false) && !(fn.name == "runtime.NumGoroutine")
 | none=>false
theorem wk_all:wkL.all (fnB Tryz.prog)=true:=by decide +kernel
def wkCx (P:Program)(sh:Nat→Prop):Cx:=⟨fun f=>wkOk f=true,P.globals.size,fun g=>wkGl g=true,sh⟩
theorem wk_fn {f:Nat}(h:wkOk f=true):fnB Tryz.prog f=true:=by
 have:=wk_all
 rw[List.all_eq_true] at this
 exact this f (by simpa [wkOk] using h)
theorem wk_texts (sh:Nat→Prop):Texts (wkCx Tryz.prog sh) Tryz.prog:=fun f hf=>by
 have h:=wk_fn hf
 unfold fnB at h
 split at h
 ·rename_i fn hfn
  simp only[Bool.and_eq_true] at h
  have h1:=h.1
  split at h1
  ·rename_i c hc
   exact⟨fn,c,hfn,hc,codeB_ok (fun f hf=>hf) (fun g hg=>hg) h1⟩
  ·cases h1
 ·cases h
theorem wk_bodies (sh:Nat→Prop):Bodies (wkCx Tryz.prog sh) Tryz.prog:=fun f hf=>by
 have h:=wk_fn hf
 unfold fnB at h
 split at h
 ·rename_i fn hfn
  simp only[Bool.and_eq_true] at h
  have h1:=h.1
  split at h1
  ·rename_i c hc
   exact⟨fn,hfn,by rw[hc];rfl,by simpa using h.2⟩
  ·cases h1
 ·cases h
end Go.Proofs.YtjeicikflkjacaaGreatDoor.Par

/- A measure for many: one of them goes down, the others stay as they are. -/
namespace Go.Proofs.YtjeicikflkjacaaGreatDoor.Mk
section
variable {A:Type} {lt:A→A→Prop}
def Down (lt:A→A→Prop)(n:Nat)(f g:Nat→A):Prop:=∃i,i<n∧lt (f i) (g i)∧∀j,j≠i→f j=g j
theorem Down.accs {n:Nat}{f g:Nat→A}(h:Down lt n f g)(hg:∀i,i<n→Acc lt (g i)):∀i,i<n→Acc lt (f i):=by
 obtain⟨i,hi,hl,ho⟩:=h
 intro j hj
 by_cases e:j=i
 ·subst e;exact (hg j hj).inv hl
 ·rw[ho j e];exact hg j hj
theorem down_acc:∀(n:Nat) (g:Nat→A),(∀i,i<n→Acc lt (g i))→Acc (Down lt n) g
 | 0,g,_=>⟨g,fun f ⟨i,hi,_⟩=>absurd hi (Nat.not_lt_zero i)⟩
 | n+1,g,hg=>by
  have outer:∀a,Acc lt a→∀g:Nat→A,g n=a→(∀i,i<n→Acc lt (g i))→Acc (Down lt (n+1)) g:=by
   intro a ha
   induction ha with
   | intro a _ iha =>
    intro g hga hg
    have inner:∀g,Acc (Down lt n) g→g n=a→(∀i,i<n→Acc lt (g i))→Acc (Down lt (n+1)) g:=by
     intro g hacc
     induction hacc with
     | intro g _ ihg =>
      intro hga hg
      refine⟨g,fun f hf=>?_⟩
      obtain⟨i,hi,hl,ho⟩:=hf
      by_cases e:i=n
      ·subst e
       exact iha (f i) (hga ▸ hl) f rfl fun j hj=>by rw[ho j (by omega)];exact hg j hj
      ·have hd:Down lt n f g:=⟨i,by omega,hl,ho⟩
       exact ihg f hd (by rw[ho n (fun e'=>e e'.symm)];exact hga) (hd.accs hg)
    exact inner g (down_acc n g hg) hga hg
  exact outer (g n) (hg n (Nat.lt_succ_self n)) g rfl fun i hi=>hg i (Nat.lt_succ_of_lt hi)
def Acs (lt:A→A→Prop)(n:Nat):Type:={ f:Nat→A // ∀i,i<n→Acc lt (f i) }
theorem down_wf (lt:A→A→Prop)(n:Nat):WellFounded fun (f g:Acs lt n)=>Down lt n f.1 g.1 :=
 ⟨fun f=>InvImage.accessible Subtype.val (down_acc n f.1 f.2)⟩
theorem num_down_wf (lt:A→A→Prop)(n:Nat):WellFounded (Prod.Lex (· < ·:Nat→Nat→Prop) fun (f g:Acs lt n)=>Down lt n f.1 g.1) :=
 (Prod.lex ⟨_,Nat.lt_wfRel.wf⟩ ⟨_,down_wf lt n⟩).wf
end
end Go.Proofs.YtjeicikflkjacaaGreatDoor.Mk

/- One communication of many cases in a machine of many goroutines, at channels without a buffer: it waits, or it meets one partner, whichever the tape picks. -/
namespace Go.Proofs.YtjeicikflkjacaaGreatDoor.Mk
open Go Go.Conc
theorem choose_select (P:Program)(w:World){n:Nat}(hn:0<n):∃b d,b<n∧(choose (.select n)).run P w=.ok b (w.at d):=by
 by_cases hf:n≤1
 ·exact⟨0,w.drawn,hn,by simp[choose,Sem.run,Question.forced,hf,World.at]⟩
 ·exact⟨w.tape w.drawn (.select n) % n,w.drawn+1,Nat.mod_lt _ hn,by simp[choose,Sem.run,Question.forced,Question.cut,hf,World.at]⟩
theorem choose_extern (P:Program)(w:World)(s:String){n:Nat}(hn:0<n):∃b d,b<n∧(choose (.extern s n)).run P w=.ok b (w.at d):=by
 by_cases hf:n=1
 ·exact⟨0,w.drawn,hn,by simp[choose,Sem.run,Question.forced,hf,World.at]⟩
 ·refine⟨w.tape w.drawn (.extern s n) % n,w.drawn+1,Nat.mod_lt _ hn,?_⟩
  have:n≠0:=by omega
  simp[choose,Sem.run,Question.forced,Question.cut,hf,World.at,this]
def pickS (ready:List (Nat × CommCase × List Way)):Sem (Nat × CommCase × Way):=do
 let a ← choose (.select ready.length)
 let (k,c,ws):=ready.getD a (0,default,[])
 let b ← choose (.extern "which waiting goroutine is the partner" ws.length)
 pure (k,c,ws.getD b .closed)
theorem pick_any (P:Program)(w:World){ready:List (Nat × CommCase × List Way)}(hne:ready≠[])(hw:∀x∈ready,x.2.2≠[]) :
  ∃k c ws way d,(k,c,ws)∈ready∧way∈ws∧(pickS ready).run P w=.ok (k,c,way) (w.at d):=by
 obtain⟨a,d,ha,ea⟩:=choose_select P w (List.length_pos_iff.2 hne)
 obtain ⟨b, d', hb, eb⟩ := choose_extern P (w.at d) "which waiting goroutine is the partner" (List.length_pos_iff.2 (hw _ (List.getElem_mem ha)))
 refine⟨ready[a].1,ready[a].2.1,ready[a].2.2,ready[a].2.2[b],d',List.getElem_mem ha,List.getElem_mem hb,?_⟩
 have e1:ready.getD a (0,default,[])=ready[a]:=by simp[List.getD,ha]
 have e2:ready[a].2.2.getD b .closed=ready[a].2.2[b]:=by simp[List.getD,hb]
 unfold pickS
 simp only[bind,Sem.run_bind',ea,Result.andThen,e1,eb,e2]
 rfl
section
variable {P:Program} {gs:Array Goroutine} {w w₁:World} {sl:Option (Nat × Nat)} {i:Nat} {g g₂:Goroutine} {es:Array Event} {cases:Array CommCase} {shape:CommShape} {blocking:Bool}
def Meets (P:Program)(gs:Array Goroutine)(i:Nat)(g₂:Goroutine)(cases:Array CommCase)(shape:CommShape)(w₁:World)(sl:Option (Nat × Nat))(k:Nat)(cc:CommCase)(j kj d:Nat):Stepped × Array MemOp :=
 let gs':=gs.setIfInBounds i ph
 let c:=match cc.chan with|.chan (some r)=>r|_=>0
 let me (a:MemAct):MemOp:={ g:=i,fn:=g₂.frame.fn,pos:=g₂.frame.place,act:=a }
 let other (a:MemAct):MemOp:={ g:=j,fn:=(gs'.getD j default).frame.fn,pos:=(gs'.getD j default).frame.place,act:=a }
 match (w₁.heap[c]?:Option Obj),cc.send with
 | some (.chan cap buf closed s r tm),some v =>
  (.next (crowd ((finishPartner P gs' j kj v).setIfInBounds i (g₂.finishComm P cases shape k undef false)) ((w₁.at d).setChan c cap buf closed (s+1) (r+1) tm) sl),#[me (.send c s),other (.recv c r cap),me (.sendDone c s),other (.recvDone c r)])
 | some (.chan cap buf closed s r tm),none =>
  (.next (crowd ((finishPartner P gs' j kj undef).setIfInBounds i (g₂.finishComm P cases shape k (offeredValue gs' j kj) true)) ((w₁.at d).setChan c cap buf closed (s+1) (r+1) tm) sl),#[other (.send c s),me (.recv c r cap),other (.sendDone c s),me (.recvDone c r)])
 | _, _ => (.ended (.stuck "" "") w₁, #[])
theorem way_chan {gs:Array Goroutine}{cc:CommCase}{j kj:Nat}(h:Way.partner j kj∈ways w₁ gs cc):∃c cap buf closed s r tm,cc.chan=.chan (some c)∧w₁.heap[c]?=some (.chan cap buf closed s r tm):=by
 unfold ways at h
 split at h
 ·split at h
  ·exact⟨_,_,_,_,_,_,_,by assumption,by assumption⟩
  ·exact⟨_,_,_,_,_,_,_,by assumption,by assumption⟩
  ·cases h
 ·cases h
theorem comm_meets (hi:gs[i]?=some g)(h:stepG P (i==0) g w=.comm g₂ cases blocking shape w₁ es)(hill:∀cc∈cases,illMade w₁ cc=false)
  (hsome:∃cc∈cases,ways w₁ (gs.setIfInBounds i ph) cc≠[]) (hall:∀cc∈cases,∀way∈ways w₁ (gs.setIfInBounds i ph) cc,∃j kj,way=.partner j kj) :
  ∃k cc j kj d,cases[k]?=some cc∧Way.partner j kj∈ways w₁ (gs.setIfInBounds i ph) cc ∧
   runT P (crowd gs w sl) i=((Meets P gs i g₂ cases shape w₁ sl k cc j kj d).1,MemOp.ofEvents i g.frame.fn g.frame.place es++(Meets P gs i g₂ cases shape w₁ sl k cc j kj d).2):=by
 generalize hr:((cases.zipIdx.toList.map fun (c,k)=>(k,c,ways w₁ (gs.setIfInBounds i ph) c)).filter fun (_,_,ws)=>!ws.isEmpty)=ready
 have hmem:∀x∈ready,cases[x.1]?=some x.2.1∧x.2.2=ways w₁ (gs.setIfInBounds i ph) x.2.1∧x.2.2≠[]:=by
  intro x hx
  rw[←hr,List.mem_filter,List.mem_map] at hx
  obtain⟨⟨⟨c,k⟩,hm,rfl⟩,he⟩:=hx
  exact⟨mem_of_zipIdx hm,rfl,by intro e;simp at he;exact he e⟩
 have hne:ready≠[]:=by
  obtain⟨cc,hc,hw⟩:=hsome
  obtain⟨m,hlt,e⟩:=Array.mem_iff_getElem.1 hc
  have:(m,cc,ways w₁ (gs.setIfInBounds i ph) cc)∈ready:=by
   rw[←hr,List.mem_filter,List.mem_map]
   refine⟨⟨(cc,m),?_,rfl⟩,?_⟩
   ·rw[Array.mem_toList_iff,Array.mem_zipIdx_iff_getElem?];simp[←e]
   ·cases e':ways w₁ (gs.setIfInBounds i ph) cc with
    | nil=>exact absurd e' hw
    | cons _ _=>simp
  intro e0;rw[e0] at this;cases this
 obtain⟨k,c,ws,way,d,hx,hway,hrun⟩:=pick_any P w₁ hne fun x hx=>(hmem x hx).2.2
 obtain⟨hk,hws,_⟩:=hmem _ hx
 simp only at hk hws
 subst hws
 obtain⟨j,kj,rfl⟩:=hall c (Array.mem_of_getElem? hk) way hway
 obtain⟨ch,cap,buf,closed,s,r,tm,hch,hb⟩:=way_chan hway
 refine⟨k,c,j,kj,d,hk,hway,?_⟩
 rw[runT_crowd_comm hi h]
 have hill':cases.any (illMade w₁)=false:=any_ill hill
 have hemp:ready.isEmpty=false:=by cases ready with
  | nil=>exact absurd rfl hne
  | cons _ _=>rfl
 have hb':(w₁.at d).heap[ch]?=some (.chan cap buf closed s r tm):=hb
 unfold communicate
 simp only[hr]
 rw[if_neg (by rw[Bool.not_eq_true];exact hill'),if_neg (by rw[hemp];simp)]
 unfold pickS at hrun
 rw[hrun]
 unfold Meets
 cases hs:c.send with
 | some v=>simp[hch,hb,hb',hs,crowd,World.setChan]
 | none=>simp[hch,hb,hb',hs,crowd,World.setChan]
end
end Go.Proofs.YtjeicikflkjacaaGreatDoor.Mk

/- The ways of a case at an open channel without a buffer, and at no channel. -/
namespace Go.Proofs.YtjeicikflkjacaaGreatDoor.Mk
open Go Go.Conc
section
variable {P:Program} {gs:Array Goroutine} {w w₁:World} {sl:Option (Nat × Nat)} {i:Nat} {g g₂:Goroutine} {es:Array Event} {cases:Array CommCase} {shape:CommShape}
def ChanOpen (w:World)(c:Nat):Prop:=∃s r tm,w.heap[c]?=some (.chan 0 #[] false s r tm)
def CaseOk (w:World)(cc:CommCase):Prop:=cc.chan=.chan none∨∃c,cc.chan=.chan (some c)∧ChanOpen w c
theorem ways_open {gs:Array Goroutine}{cc:CommCase}{c:Nat}(hc:ChanOpen w c)(h:cc.chan=.chan (some c)):ways w gs cc=(partners gs c cc.send.isNone).map fun (x:Nat × Nat)=>Way.partner x.1 x.2:=by
 obtain⟨s,r,tm,hc⟩:=hc
 cases hs:cc.send with
 | none =>
  simp only[ways,h,hc,hs,Option.isNone_none]
  cases partners gs c true<;>simp
 | some v =>
  simp only[ways,h,hc,hs,Option.isNone_some]
  cases partners gs c false<;>simp
theorem CaseOk.made {cc:CommCase}(h:CaseOk w cc):illMade w cc=false:=by
 rcases h with h|⟨c,h,s,r,tm,hc⟩
 ·simp[illMade,h]
 ·simp[illMade,h,hc]
theorem CaseOk.way {gs:Array Goroutine}{cc:CommCase}(h:CaseOk w cc){way:Way}(hw:way∈ways w gs cc):∃c j kj,cc.chan=.chan (some c)∧ChanOpen w c∧way=.partner j kj∧(j,kj)∈partners gs c cc.send.isNone:=by
 rcases h with h|⟨c,h,hc⟩
 ·simp[ways,h] at hw
 ·rw[ways_open hc h,List.mem_map] at hw
  obtain⟨⟨j,k⟩,hm,rfl⟩:=hw
  exact⟨c,j,k,h,hc,rfl,hm⟩
theorem comm_any (hi:gs[i]?=some g)(h:stepG P (i==0) g w=.comm g₂ cases true shape w₁ es)(hok:∀cc∈cases,CaseOk w₁ cc) :
  ((∀cc∈cases,∀c,cc.chan=.chan (some c)→partners (gs.setIfInBounds i ph) c cc.send.isNone=[])∧∀cc∈cases,NoWays w₁ (gs.setIfInBounds i ph) cc) ∨
  ∃k cc c j kj d gj,cases[k]?=some cc∧cc.chan=.chan (some c)∧ChanOpen w₁ c∧j≠i∧gs[j]?=some gj∧kj∈offersAt gj c cc.send.isNone ∧
   runT P (crowd gs w sl) i=((Meets P gs i g₂ cases shape w₁ sl k cc j kj d).1,MemOp.ofEvents i g.frame.fn g.frame.place es++(Meets P gs i g₂ cases shape w₁ sl k cc j kj d).2):=by
 by_cases hs:∃cc∈cases,ways w₁ (gs.setIfInBounds i ph) cc≠[]
 ·right
  obtain⟨k,cc,j,kj,d,hk,hw,e⟩:=comm_meets (sl:=sl) hi h (fun cc hc=>(hok cc hc).made) hs fun cc hc way hw=>by
   obtain⟨_,j,kj,_,_,e,_⟩:=(hok cc hc).way hw
   exact⟨j,kj,e⟩
  obtain⟨c,j',kj',hch,ho,e',hm⟩:=(hok cc (Array.mem_of_getElem? hk)).way hw
  cases e'
  obtain⟨gj,hj,hkj⟩:=mem_partners.1 hm
  have hne:j≠i:=by
   rintro rfl
   have:(gs.setIfInBounds j ph)[j]?=some ph:=by
    obtain⟨hlt,_⟩:=Array.getElem?_eq_some_iff.1 hi
    simp[hlt]
   rw[this] at hj
   cases hj
   rw[offersAt_ph] at hkj
   cases hkj
  rw[Array.getElem?_setIfInBounds_ne (fun e=>hne e.symm)] at hj
  exact⟨k,cc,c,j,kj,d,gj,hk,hch,ho,hne,hj,hkj,e⟩
 ·left
  have h0:∀cc∈cases,ways w₁ (gs.setIfInBounds i ph) cc=[]:=fun cc hc=>Classical.byContradiction fun hn=>hs ⟨cc,hc,hn⟩
  refine⟨fun cc hc c hch=>?_,fun cc hc=>⟨(hok cc hc).made,h0 cc hc⟩⟩
  rcases hok cc hc with hn|⟨c',hc',ho⟩
  ·rw[hn] at hch;cases hch
  ·rw[hc'] at hch;cases hch
   have:=h0 cc hc
   rw[ways_open ho hc',List.map_eq_nil_iff] at this
   exact this
end
end Go.Proofs.YtjeicikflkjacaaGreatDoor.Mk

/- What comes of a meeting, written out: one who sends meets one who is parked at a receive, and the other way round. -/
namespace Go.Proofs.YtjeicikflkjacaaGreatDoor.Mk
open Go Go.Conc
section
variable {P:Program} {gs:Array Goroutine} {w₁:World} {sl:Option (Nat × Nat)} {i k j kj c s r d:Nat} {tm:Bool} {g₂ gj:Goroutine} {cases cs:Array CommCase} {shape shj:CommShape} {v z vj zj:Value}
theorem meets_send (hc:w₁.heap[c]?=some (.chan 0 #[] false s r tm))(hne:j≠i)(hj:gs[j]?=some (parked gj cs shj))(hk:cs[kj]?=some (rcase c zj)) :
  Meets P gs i g₂ cases shape w₁ sl k (scase c v z) j kj d =
   (.next (crowd ((gs.setIfInBounds j (gj.finishComm P cs shj kj v true)).setIfInBounds i (g₂.finishComm P cases shape k undef false)) ((w₁.at d).setChan c 0 #[] false (s+1) (r+1) tm) sl),
    #[{ g:=i,fn:=g₂.frame.fn,pos:=g₂.frame.place,act:=.send c s },{ g:=j,fn:=gj.frame.fn,pos:=gj.frame.place,act:=.recv c r 0 },
     { g:=i,fn:=g₂.frame.fn,pos:=g₂.frame.place,act:=.sendDone c s },{ g:=j,fn:=gj.frame.fn,pos:=gj.frame.place,act:=.recvDone c r }]):=by
 have hj':=stand_get (i:=i) hne hj
 have hfp:=finishPartner_at P (gs.setIfInBounds i ph) hj' (cs:=cs) (sh:=shj) rfl kj v
 have hgd:(gs.setIfInBounds i ph).getD j default=parked gj cs shj:=by rw[Array.getD_eq_getD_getElem?,hj'];rfl
 unfold Meets
 simp only[scase,hc,hfp,hgd,hk]
 simp[rcase,set_stand2,parked]
 rfl
theorem meets_recv (hc:w₁.heap[c]?=some (.chan 0 #[] false s r tm))(hne:j≠i)(hj:gs[j]?=some (parked gj cs shj))(hk:cs[kj]?=some (scase c vj zj)) :
  Meets P gs i g₂ cases shape w₁ sl k (rcase c z) j kj d =
   (.next (crowd ((gs.setIfInBounds j (gj.finishComm P cs shj kj undef false)).setIfInBounds i (g₂.finishComm P cases shape k vj true)) ((w₁.at d).setChan c 0 #[] false (s+1) (r+1) tm) sl),
    #[{ g:=j,fn:=gj.frame.fn,pos:=gj.frame.place,act:=.send c s },{ g:=i,fn:=g₂.frame.fn,pos:=g₂.frame.place,act:=.recv c r 0 },
     { g:=j,fn:=gj.frame.fn,pos:=gj.frame.place,act:=.sendDone c s },{ g:=i,fn:=g₂.frame.fn,pos:=g₂.frame.place,act:=.recvDone c r }]):=by
 have hj':=stand_get (i:=i) hne hj
 have hfp:=finishPartner_at P (gs.setIfInBounds i ph) hj' (cs:=cs) (sh:=shj) rfl kj undef
 have hgd:(gs.setIfInBounds i ph).getD j default=parked gj cs shj:=by rw[Array.getD_eq_getD_getElem?,hj'];rfl
 have hov:offeredValue (gs.setIfInBounds i ph) j kj=vj:=by simp[offeredValue,hj',parked,hk,scase]
 unfold Meets
 simp only[rcase,hc,hfp,hgd,hk,hov]
 simp[scase,set_stand2,parked]
 rfl
theorem offers_at {g:Goroutine}{b:Bool}(h:kj∈offersAt g c b):∃cs sh,g.status=.blocked∧g.offers=some (cs,sh)∧∃cc,cs[kj]?=some cc∧cc.send.isSome=b∧cc.chan=.chan (some c):=by
 unfold offersAt at h
 split at h
 ·rename_i cs sh hs ho
  rw[List.mem_map] at h
  obtain⟨⟨cc,m⟩,hm,rfl⟩:=h
  rw[List.mem_filter] at hm
  obtain⟨hm,ht⟩:=hm
  simp only[Bool.and_eq_true,beq_iff_eq] at ht
  refine⟨cs,sh,hs,ho,cc,mem_of_zipIdx hm,ht.1,?_⟩
  have h2:=ht.2
  split at h2
  ·rename_i r' e
   simp only[beq_iff_eq] at h2
   rw[e,h2]
  ·cases h2
 ·cases h
end
end Go.Proofs.YtjeicikflkjacaaGreatDoor.Mk

/- Another's step leaves one alone who runs, who has ended, and who is parked at open channels. -/
namespace Go.Proofs.YtjeicikflkjacaaGreatDoor.Mk
open Go Go.Conc
section
variable {P:Program} {gs:Array Goroutine} {w w':World} {sl:Option (Nat × Nat)} {i:Nat} {g g':Goroutine} {es:Array Event} {cs:Array CommCase} {sh:CommShape}
theorem again_parked (h:∀cc∈cs,CaseOk w cc):(parked g cs sh).again w=parked g cs sh:=by
 simp[Goroutine.again,parked]
 intro x hx
 rcases h cs[x] (Array.getElem_mem hx) with e|⟨c,e,s,r,tm,hc⟩
 ·simp[e]
 ·simp[e,hc]
inductive Still (w:World):Goroutine→Prop
 | run {g:Goroutine} (h:g.status=.running):Still w g
 | fin {g:Goroutine} (h:g.status=.finished):Still w g
 | park {g:Goroutine} {cs:Array CommCase} {sh:CommShape} (h:∀cc∈cs,CaseOk w cc):Still w (parked g cs sh)
theorem Still.again {g:Goroutine}(h:Still w g):g.again w=g:=by
 cases h with
 | run h=>simp[Goroutine.again,h]
 | fin h=>simp[Goroutine.again,h]
 | park h=>exact again_parked h
theorem Still.woken {a a' g:Goroutine}(h:Still w g):Go.Conc.woken P a a' w g=g:=by
 unfold Go.Conc.woken
 split
 ·exact h.again
 ·rfl
theorem go_still (hi:gs[i]?=some g)(h:stepG P (i==0) g w=.go g' w' es)(ho:∀j gj,j≠i→gs[j]?=some gj→Still w' gj) :
  runT P (crowd gs w sl) i=(.next (crowd (gs.setIfInBounds i g') w' sl),MemOp.ofEvents i g.frame.fn g.frame.place es):=by
 rw[runT_crowd_go hi h]
 congr 3
 apply Array.ext_getElem?
 intro j
 by_cases hj:i=j
 ·subst hj
  obtain⟨hlt,_⟩:=Array.getElem?_eq_some_iff.1 hi
  simp[hlt]
 ·rw[Array.getElem?_setIfInBounds_ne hj,Array.getElem?_setIfInBounds_ne hj,Array.getElem?_map]
  cases e:gs[j]? with
  | none=>rfl
  | some gj=>simp[(ho j gj (fun e=>hj e.symm) e).woken]
end
end Go.Proofs.YtjeicikflkjacaaGreatDoor.Mk

/- A caller and its workers: what holds of memory, of the trace and of those that only leave, whoever moves. -/
namespace Go.Proofs.YtjeicikflkjacaaGreatDoor.Ms
open Go Go.Conc Go.Conc.Lib Go.ConcN
open Go.ConcR (KK wgBlock WgAt stA smA rd wr mk Payload Aside2 DC0 g_of_ofEvents)
open Par (Cx LocIn Bij VR WR AR OR idB shutW Work)
noncomputable abbrev PP:Program:=Tryz.prog
structure Job where
 k:Kt
 N:Nat
 m:Nat
 c:Frame
 cs:List Frame
 s0:Nat
 w0:World
 S:Nat→Prop
 Tk:Nat→Option Nat
 Z:Nat→Prop
 R:Nat→Value→World→Prop
def Job.base (J:Job):Nat:=J.w0.heap.size
noncomputable def Job.ok (J:Job):Cx:=Par.wkCx PP J.S
def Mem (J:Job)(j g:Nat):Prop:=g=0∨(J.s0≤g∧g<J.s0+j)
def OwnL (J:Job)(own:Nat→Nat)(hold:Nat→Option Nat)(g:Nat)(l:Loc):Prop:=∃b,J.base≤b∧LocIn b l∧((g=0∧own b=0)∨∃i x,g=J.s0+i∧hold i=some x∧own b=x+1)
def RoL (J:Job)(l:Loc):Prop:=∃b,b<J.base∧b≠J.k.wg∧¬J.Z b∧LocIn b l
def ZsL (J:Job)(l:Loc):Prop:=∃a:Addr,l=.cell a∧(J.Z a.block∨a.block=J.k.wg)
structure Geo (J:Job):Prop where
 s0:1≤J.s0
 wg:J.k.wg<J.base
 bN:J.k.bN<J.base∧¬J.Z J.k.bN
 bK:J.k.bK<J.base∧¬J.Z J.k.bK
 bR:J.k.bR<J.base∧¬J.Z J.k.bR
 cN:J.k.cN<J.base∧¬J.Z J.k.cN
 cR:J.k.cR<J.base
 ne:J.k.wg≠J.k.bN∧J.k.wg≠J.k.bK∧J.k.wg≠J.k.bR∧J.k.wg≠J.k.cN∧J.k.wg≠J.k.cR∧J.k.cN≠J.k.cR
 nc:J.k.cN≠J.k.bN∧J.k.cN≠J.k.bK∧J.k.cN≠J.k.bR∧J.k.cR≠J.k.bN∧J.k.cR≠J.k.bK∧J.k.cR≠J.k.bR
 sS:∀b,J.S b→b<J.base∧b≠J.k.wg∧b≠J.k.cN∧b≠J.k.cR∧¬J.Z b
 bx:Bx J.k J.w0
structure WF (J:Job)(shut:Bool)(w:World):Prop where
 old:∀b,b<J.base→b≠J.k.wg→b≠J.k.cN→b≠J.k.cR→w.heap[b]?=J.w0.heap[b]?
 cn:∃s r tm,w.heap[J.k.cN]?=some (.chan 0 #[] shut s r tm)
 cr:∃s r tm,w.heap[J.k.cR]?=some (.chan 0 #[] false s r tm)
 size:J.base≤w.heap.size
 os:w.os=J.w0.os∧w.output=J.w0.output
structure Com (J:Job)(j:Nat)(own:Nat→Nat)(hold:Nat→Option Nat)(dW:Nat→Nat)(d0:Nat)(shut:Bool)(q:Nat→Nat)(gs:Array Goroutine)(w:World)(t:Trace):Prop where
 size:gs.size=J.s0+j
 old:∀i g,0<i→i<J.s0→gs[i]?=some g→QuitsD PP (q i) (Deaf t i) g
 wf:WF J shut w
 ti:TI (Mem J j) (OwnL J own hold) (RoL J) (ShN J.k.wg) (ZsL J) w.heap.size t
 d0:Deaf t 0=d0
 dW:∀i,i<j→Deaf t (J.s0+i)=dW i
 up:∀x,J.s0+j≤x→Deaf t x=0
 inj:∀i i' x,i<j→i'<j→hold i=some x→hold i'=some x→i=i'
theorem locIn_fn {a b:Nat}{l:Loc}(h:LocIn a l)(k:LocIn b l):a=b:=by
 cases l with
 | cell x=>exact (h:x.block=a).symm.trans k
 | obj r=>exact (h:r=a).symm.trans k
 | _=>exact h.elim
section
variable {J:Job} {j:Nat} {own own':Nat→Nat} {hold hold':Nat→Option Nat} {dW dW':Nat→Nat} {d0 d0':Nat} {shut shut':Bool} {q q':Nat→Nat} {gs gs':Array Goroutine} {w w':World} {t:Trace}
theorem apt (G:Geo J)(inj:∀i i' x,i<j→i'<j→hold i=some x→hold i'=some x→i=i'):Apt (Mem J j) (OwnL J own hold) (RoL J) (ShN J.k.wg):=by
 have hs:=G.s0
 have hw:=G.wg
 refine⟨fun g g' l hg hg' h h'=>?_,fun g l _ h h'=>?_,fun g l _ h h'=>?_,fun l h h'=>?_⟩
 ·obtain⟨b,_,hb,h⟩:=h
  obtain⟨b',_,hb',h'⟩:=h'
  obtain rfl:=locIn_fn hb hb'
  rcases h with⟨e,o⟩|⟨i,x,e,hx,o⟩<;>rcases h' with⟨e',o'⟩|⟨i',x',e',hx',o'⟩
  ·rw[e,e']
  ·omega
  ·omega
  ·obtain rfl:x=x':=by omega
   have hi:i<j:=by rcases hg with h|h<;>omega
   have hi':i'<j:=by rcases hg' with h|h<;>omega
   rw[e,e',inj i i' x hi hi' hx hx']
 ·obtain⟨b,hb,hl,_⟩:=h
  obtain⟨b',hb',_,_,hl'⟩:=h'
  have:=locIn_fn hl hl'
  omega
 ·obtain⟨b,hb,hl,_⟩:=h
  obtain⟨a,rfl,ha⟩:=h'
  have:a.block=b:=hl
  omega
 ·obtain⟨b,_,hne,_,hl⟩:=h
  obtain⟨a,rfl,ha⟩:=h'
  exact hne ((show a.block=b from hl).symm.trans ha)
def EvOk (J:Job)(own:Nat→Nat)(hold:Nat→Option Nat)(B x:Nat)(e:Event):Prop :=
 (∀b,(MemAct.ofEvent e).touch?=some b→OwnL J own hold x b.loc∨(RoL J b.loc∧b.write=false)∨(ShN J.k.wg b.loc∧b.kind≠.plain∧(b.kind=.said→x=0)))∧(MemAct.ofEvent e).low B
theorem Com.step (G:Geo J)(C:Com J j own hold dW d0 shut q gs w t){x:Nat}(hx:Mem J j x){fn:FuncId}{pos:String}{es:Array Event}
  (hsz:gs'.size=gs.size) (hold_:∀i g,0<i→i<J.s0→gs'[i]?=some g→gs[i]?=some g) (hwf:WF J shut' w') (hB:w.heap.size≤w'.heap.size)
  (hO:∀g l,Mem J j g→OwnL J own' hold' g l→OwnL J own hold g l∨∃b,w.heap.size≤b∧LocIn b l) (inj:∀i i' x,i<j→i'<j→hold' i=some x→hold' i'=some x→i=i')
  (he:∀e∈es,EvOk J own' hold' w'.heap.size x e)
  (hd0:d0'=if x=0 then deafBehind d0 es else d0) (hdW:∀i,i<j→dW' i=if x=J.s0+i then deafBehind (dW i) es else dW i) :
  Com J j own' hold' dW' d0' shut' q gs' w' (t++MemOp.ofEvents x fn pos es):=by
 have hs:=G.s0
 have hu:∀op∈MemOp.ofEvents x fn pos es,op.g=x:=g_of_ofEvents
 have hgr:TI (Mem J j) (OwnL J own' hold') (RoL J) (ShN J.k.wg) (ZsL J) w'.heap.size t:=C.ti.grow hB fun g l hg hl=>by
  rcases hO g l hg hl with h|⟨b,hb,h⟩
  ·exact .inl h
  ·cases l with
   | cell a=>exact .inr ⟨b,hb,.inr ⟨a,h,rfl⟩⟩
   | obj r=>exact .inr ⟨b,hb,.inl (by rw[show r=b from h])⟩
   | _=>exact h.elim
 refine⟨hsz.trans C.size,fun i g h0 hi hg=>?_,hwf,hgr.app (apt G inj) hx hu (fun op hop b hb=>?_) (fun op hop=>?_),?_,fun i hi=>?_,fun y hy=>?_,inj⟩
 ·have hne:x≠i:=by rcases hx with h|h<;>omega
  rw[Deaf_other t hne _ hu]
  exact C.old i g h0 hi (hold_ i g h0 hi hg)
 ·obtain⟨e,hm,rfl⟩:=Go.Conc.mem_ofEvents hop
  exact (he e hm).1 b hb
 ·obtain⟨e,hm,rfl⟩:=Go.Conc.mem_ofEvents hop
  exact (he e hm).2
 ·rw[hd0]
  split
  ·rename_i h
   subst h
   rw[Deaf_own,C.d0]
  ·rename_i h
   rw[Deaf_other t h _ hu,C.d0]
 ·rw[hdW i hi]
  split
  ·rename_i h
   subst h
   rw[Deaf_own,C.dW i hi]
  ·rename_i h
   rw[Deaf_other t h _ hu,C.dW i hi]
 ·have hne:x≠y:=by rcases hx with h|h<;>omega
  rw[Deaf_other t hne _ hu]
  exact C.up y hy
theorem Com.slip (C:Com J j own hold dW d0 shut q gs w t){x:Nat}(h0:0<x)(hx:x<J.s0){g':Goroutine}{fn:FuncId}{pos:String}{es:Array Event}(hm:∀e∈es,Event.mute e=true){n:Nat}(hq:QuitsD PP n (deafBehind (Deaf t x) es) g')
  (hsz:gs'.size=gs.size) (hx':gs'[x]?=some g') (ho:∀i g,0<i→i<J.s0→i≠x→gs'[i]?=some g→gs[i]?=some g):Com J j own hold dW d0 shut (upd q x n) gs' w (t++MemOp.ofEvents x fn pos es):=by
 have hu:∀op∈MemOp.ofEvents x fn pos es,op.g=x:=g_of_ofEvents
 refine⟨hsz.trans C.size,fun i gi hi0 hi hg=>?_,C.wf,C.ti.mute (fun op hop=>?_) (fun op hop=>?_),?_,fun i hi=>?_,fun y hy=>?_,C.inj⟩
 ·by_cases e:i=x
  ·subst e
   rw[hx'] at hg
   cases hg
   rw[upd_same,Deaf_own]
   exact hq
  ·rw[upd_ne q n e,Deaf_other t (fun h=>e h.symm) _ hu]
   exact C.old i gi hi0 hi (ho i gi hi0 hi e hg)
 ·obtain⟨e,he,rfl⟩:=Go.Conc.mem_ofEvents hop
  exact touch_mute (hm e he)
 ·obtain⟨e,he,rfl⟩:=Go.Conc.mem_ofEvents hop
  exact low_mute (hm e he) _
 ·rw[Deaf_other t (by omega) _ hu,C.d0]
 ·rw[Deaf_other t (by omega) _ hu,C.dW i hi]
 ·rw[Deaf_other t (by omega) _ hu]
  exact C.up y hy
theorem Com.at (C:Com J j own hold dW d0 shut q gs w t)(d:Nat):Com J j own hold dW d0 shut q gs (w.at d) t:=⟨C.size,C.old,⟨C.wf.old,C.wf.cn,C.wf.cr,C.wf.size,C.wf.os⟩,C.ti,C.d0,C.dW,C.up,C.inj⟩
theorem Com.quiet (C:Com J j own hold dW d0 shut q gs w t){u:Trace}(hn:∀op∈u,op.act.touch?=none)(hl:∀op∈u,op.act.low w.heap.size)(hd:∀op∈u,op.act≠.mark .disable∧op.act≠.mark .enable)
  (hsz:gs'.size=gs.size) (hold_:∀i g,0<i→i<J.s0→gs'[i]?=some g→gs[i]?=some g) (hwf:WF J shut' w') (hB:w'.heap.size=w.heap.size)
  (hO:∀g l,Mem J j g→OwnL J own hold' g l→OwnL J own hold g l∨∃b,w.heap.size≤b∧LocIn b l) (inj:∀i i' x,i<j→i'<j→hold' i=some x→hold' i'=some x→i=i'):Com J j own hold' dW d0 shut' q gs' w' (t++u):=by
 have hD:∀x,Deaf (t++u) x=Deaf t x:=fun x=>Deaf_still t x u hd
 have h1:=C.ti.mute hn hl
 rw[←hB] at h1
 refine⟨hsz.trans C.size,fun i g h0 hi hg=>by rw[hD];exact C.old i g h0 hi (hold_ i g h0 hi hg),hwf,h1.grow (Nat.le_refl _) (fun g l hg hl=>by
  rcases hO g l hg hl with h|⟨b,hb,h⟩
  ·exact .inl h
  ·cases l with
   | cell a=>exact .inr ⟨b,by omega,.inr ⟨a,h,rfl⟩⟩
   | obj r=>exact .inr ⟨b,by omega,.inl (by rw[show r=b from h])⟩
   | _=>exact h.elim),by rw[hD];exact C.d0,fun i hi=>by rw[hD];exact C.dW i hi,fun x hx=>by rw[hD];exact C.up x hx,inj⟩
end
end Go.Proofs.YtjeicikflkjacaaGreatDoor.Ms
