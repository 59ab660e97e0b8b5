/- A run in company: its ghost in a memory of its own tells that it goes on and comes to its end. -/
import Derived.Test.YtjeicikflkjacaaGreatDoorM21
namespace Go.Proofs.YtjeicikflkjacaaGreatDoor.Par
open Go
variable {Ok:Cx} {P:Program} {R:Value→World→Prop} {β:Bij}
def Lt (P:Program)(q p:Goroutine × World):Prop:=¬AtEnd [stopper] p.1∧∃τ d es,stepG P true p.1 (on p.2 τ d)=.go q.1 q.2 es
theorem Fin.acc {g:Goroutine}{v:World}(h:Fin P true [stopper] R g v):Acc (Lt P) (g,v):=by
 induction h with
 | stop τ d he hl hR=>exact⟨_,fun q hq=>absurd he hq.1⟩
 | step hne h1 h ih =>
  refine⟨_,fun q hq=>?_⟩
  obtain⟨_,τ,d,es,hs⟩:=hq
  exact ih τ d q.1 q.2 es hs
structure Work (Ok:Cx)(P:Program)(R:Value→World→Prop)(base:List Frame)(β:Bij)(gg:Goroutine)(v:World)(g:Goroutine)(W:World):Prop where
 fin:Fin P true [stopper] R gg v
 wr:WR Ok 0 β v W
 gl:∀x,Ok.gl x→β.r x x
 gr:GR Ok P β.r [stopper] base gg g
theorem Work.others {base:List Frame}{gg g:Goroutine}{v W W2:World}(h:Work Ok P R base β gg v g W)(hb:∀a b,β.r a b→W2.heap[b]?=W.heap[b]?)(hs:W.heap.size≤W2.heap.size):Work Ok P R base β gg v g W2:=by
 refine⟨h.fin,⟨fun a b hab=>?_,fun i q hi=>absurd hi (Nat.not_lt_zero _),h.wr.gl,h.wr.vg,Nat.le_trans h.wr.wg hs,h.wr.sh⟩,h.gl,h.gr⟩
 obtain⟨o,o',h1,h2,h3⟩:=h.wr.obj a b hab
 exact⟨o,o',h1,by rw[hb a b hab];exact h2,h3⟩
theorem WR.here {E:Nat}{v W:World}(h:WR Ok E β v W)(E':Nat):WR Ok E' β (Par.on v W.tape W.drawn) W:=⟨h.obj,fun _ _ _=>rfl,h.gl,h.vg,h.wg,h.sh⟩
theorem WR.zero {E:Nat}{v W:World}(h:WR Ok E β v W):WR Ok 0 β v W:=⟨h.obj,fun _ _ hi=>absurd hi (Nat.not_lt_zero _),h.gl,h.vg,h.wg,h.sh⟩
theorem Work.good {base:List Frame}{gg g:Goroutine}{v W:World}(h:Work Ok P R base β gg v g W):Good Ok P [stopper] gg v:=⟨0,β,W,g,base,h.wr,h.gl,h.gr⟩
theorem Work.step (hG:Ok.G=P.globals.size)(hB:Bodies Ok P)(hT:Texts Ok P)(hR:∀u w τ d,R u w→R u (on w τ d)){c:Frame}{cs:List Frame}{gg g:Goroutine}{v W:World}(h:Work Ok P R (c :: cs) β gg v g W)(main:Bool) :
  (∃γ gg1 v1 g1 W1 es es',stepG P main g W=.go g1 W1 es'∧Work Ok P R (c :: cs) γ gg1 v1 g1 W1∧Lt P (gg1,v1) (gg,v)∧Fr β γ (on v W.tape W.drawn) W v1 W1∧EsR Ok.sh γ.r es es') ∨
  ∃γ u u' W1 es es',stepG P main g W=.go (Gr (c.finish u') cs) W1 es'∧VR Ok γ.r u u'∧R u (on v W.tape W.drawn)∧WR Ok 0 γ (on v W.tape W.drawn) W1∧Fr β γ (on v W.tape W.drawn) W (on v W.tape W.drawn) W1∧EsR Ok.sh γ.r es es':=by
 have hgood:=h.good
 obtain⟨hfin,hW,hgl,hgr⟩:=h
 cases hfin with
 | step hne h1 h =>
  obtain⟨gg1,v1,es,hs,hp⟩:=h1 W.tape W.drawn
  obtain⟨γ,g1,W1,es',e,hg1,hW1,hF,he⟩:=GR.step hG hB hT hgl (hW.here v1.drawn) hgr hne true main hs hp (Nat.le_refl _)
  exact Or.inl ⟨γ,gg1,v1,g1,W1,es,es',e,⟨h _ _ _ _ _ hs,hW1.zero,fun x hx=>hF.le _ _ (hgl x hx),hg1⟩,⟨hne,_,_,es,hs⟩,hF,he⟩
 | @stop _ _ u τ d he hl hu =>
  refine Or.inr ?_
  have hl':=leave_tape hgood hl W.tape W.drawn
  have hu':R u (on (on v τ d) W.tape W.drawn):=hR u (on v τ d) W.tape W.drawn hu
  cases hgr with
  | @mk f hf t t' ht k hk m hm cs1 cs' hst =>
   obtain⟨hm1,_,_,fn,hfn,hrun⟩:=hl'
   have hm2:m=.returning:=hm1
   subst hm2
   have hr:(results fn t).runT P (on v W.tape W.drawn) #[]=(.ok u (on v W.tape W.drawn),(results fn t).events P (on v W.tape W.drawn) #[]):=Prod.ext (by rw[Sem.runT_fst];exact hrun) rfl
   obtain⟨γ,u',W1,es',e,hv,hw,hF,hes⟩:=(sim_results (P:=P) fn ht W.drawn β (Bij.le_refl β) _ W (hW.here W.drawn) #[] #[] (EsR.empty _)).1 _ _ _ hr (Nat.le_refl _)
   cases hst with
   | base=>exact⟨γ,u,u',W1,_,_,results_step hfn e,hv,hu',hw.zero,hF,seen_like (P:=P) f hes⟩
   | push f2 hf2 ht2 hk2 hst =>
    have h1:=he.2
    injection h1 with h2 _
    have h3:=congrArg Frame.defers h2
    cases h3
end Go.Proofs.YtjeicikflkjacaaGreatDoor.Par

/- A run in company: how it begins. -/
namespace Go.Proofs.YtjeicikflkjacaaGreatDoor.Par
open Go
variable {Ok:Cx} {P:Program} {R:Value→World→Prop}
def idB (S:Nat→Prop):Bij:=⟨fun a b=>a=b∧S a,fun h k=>h.1.symm.trans k.1,fun h k=>h.1.trans k.1.symm⟩
def shutO:Obj→Obj
 | .cells x e f=>.cells x e (0,max x.size f.2)
 | o=>o
def cutO (n:Nat):Obj→Obj
 | .cells x e f=>.cells (x.extract 0 n) e (0,max x.size f.2)
 | o=>o
def shutW (Tk:Nat→Option Nat)(W:World):World:={ W with heap:=W.heap.mapIdx fun b o=>match Tk b with|some n=>cutO n o|none=>shutO o }
section
variable {Tk:Nat→Option Nat}
theorem shut_get (W:World)(b:Nat):(shutW Tk W).heap[b]?=(W.heap[b]?).map fun o=>match Tk b with|some n=>cutO n o|none=>shutO o:=by
 unfold shutW
 dsimp only
 rw[Array.getElem?_mapIdx]
theorem shut_size (W:World):(shutW Tk W).heap.size=W.heap.size:=by unfold shutW;simp
theorem shut_cell (W:World)(a:Addr)(ha:∀n,Tk a.block=some n→a.off<n):(shutW Tk W).cell? a=W.cell? a:=by
 unfold World.cell?
 rw[shut_get]
 cases W.heap[a.block]? with
 | none=>rfl
 | some o =>
  cases ht:Tk a.block with
  | none=>cases o<;>simp[shutO]
  | some n =>
   cases o with
   | cells x e f =>
    simp only[Option.map_some,cutO]
    split
    ·rfl
    ·have:=ha n ht
     rw[Array.getElem?_extract]
     split
     ·simp
     ·rename_i h
      have:x.size≤a.off:=by omega
      rw[Array.getElem?_eq_none this]
   | _=>simp[cutO]
theorem shut_or {γ:Nat→Nat→Prop}{o:Obj}(h:OR Ok γ o o):OR Ok γ (shutO o) o:=by
 have key:∀o',OR Ok γ o o'→o=o'→OR Ok γ (shutO o) o':=fun o' h eq=>by
  cases h with
  | cells t f f' hx hf =>
   injection eq with _ _ e3
   subst e3
   exact .cells t _ _ hx fun k _ h2=>⟨Nat.zero_le _,Nat.lt_of_lt_of_le h2 (Nat.le_max_right _ _)⟩
  | pre t f f' hs hx hf =>
   injection eq with _ _ e3
   subst e3
   exact .pre t _ _ hs hx fun k _ h2=>⟨Nat.zero_le _,Nat.lt_of_lt_of_le h2 (Nat.le_max_right _ _)⟩
  | map clock hs he=>exact .map clock hs he
  | number o sp lost hb=>exact .number o sp lost hb
 exact key o h rfl
theorem shut_shut {W:World}{b:Nat}{x:Array Value}{e:TypeId}{f:Nat × Nat}(h:W.heap[b]?=some (.cells x e f)):Shut (shutW Tk W) b:=by
 cases ht:Tk b with
 | some n=>exact⟨x.extract 0 n,e,(0,max x.size f.2),by rw[shut_get,h];simp[ht,cutO],rfl,by simp;omega⟩
 | none=>exact⟨x,e,(0,max x.size f.2),by rw[shut_get,h];simp[ht,shutO],rfl,Nat.le_max_left _ _⟩
def Cl (Ok:Cx)(S:Nat→Prop)(Tk:Nat→Option Nat)(W:World)(b:Nat):Prop:=∃o,W.heap[b]?=some o∧match Tk b with
 | some n=>∃x e f,o=.cells x e f∧∀i u,i<n→x[i]?=some u→VR Ok (idB S).r u u
 | none=>OR Ok (idB S).r o o
theorem shut_wr (S:Nat→Prop){W:World}(hS:∀b,S b→Cl Ok S Tk W b)(hsh:∀b,Ok.sh b→∃x e f,W.heap[b]?=some (.cells x e f))(hG:Ok.G≤W.heap.size):WR Ok 0 (idB S) (shutW Tk W) W:=by
 refine⟨fun a b hab=>?_,fun i q hi=>absurd hi (Nat.not_lt_zero _),fun a b hab=>by rw[hab.1],by rw[shut_size];exact hG,hG,fun a ha=>let ⟨_,_,_,h⟩:=hsh a ha;shut_shut h⟩
 obtain⟨rfl,ha⟩:=hab
 obtain⟨o,h1,h2⟩:=hS a ha
 cases ht:Tk a with
 | some n =>
  rw[ht] at h2
  obtain⟨x,e,f,rfl,hx⟩:=h2
  refine⟨_,_,by rw[shut_get,h1];simp only[ht,Option.map_some];rfl,h1,?_⟩
  refine .pre e _ _ (by simp;omega) (fun i u u' q1 q2=>?_) fun k _ h2=>⟨Nat.zero_le _,Nat.lt_of_lt_of_le h2 (Nat.le_max_right _ _)⟩
  rw[Array.getElem?_extract] at q1
  split at q1
  ·rename_i hlt
   rw[Nat.zero_add] at q1
   rw[q1] at q2
   obtain rfl:=Option.some.inj q2
   exact hx i u (by omega) q1
  ·cases q1
 | none =>
  rw[ht] at h2
  exact⟨shutO o,o,by rw[shut_get,h1];simp[ht],h1,shut_or h2⟩
theorem work_start (Tk:Nat→Option Nat)(hG:Ok.G=P.globals.size)(hB:Bodies Ok P)(hT:Texts Ok P)(hR:∀u w τ d,R u w→R u (on w τ d))(S:Nat→Prop){W:World}(hS:∀b,S b→Cl Ok S Tk W b)(hsh:∀b,Ok.sh b→∃x e f,W.heap[b]?=some (.cells x e f))(hW:Ok.G≤W.heap.size)(hgl:∀x,Ok.gl x→S x){f:FuncId}(hf:Ok f){args:Array Value}(ha:AR Ok (idB S).r args args)(h:∀τ d,Calls P f args (on (shutW Tk W) τ d) fun e w'=>∃u,e=.returned u∧R u w')(base:List Frame) :
  Work Ok P R base (idB S) (Gr (Frame.enter P f args .normal) [stopper]) (shutW Tk W) (Gr (Frame.enter P f args .normal) base) W:=by
 have hwr:=shut_wr (Tk:=Tk) S hS hsh hW
 obtain⟨fn,c,h1,h2,h3⟩:=hT f hf
 have en:Frame.enter P f args .normal=Fm f (args++Array.replicate (fn.ntmps - args.size) undef) [.code c] .run:=by
  unfold Frame.enter
  simp[h1,h2]
 have hgr:∀b b',GR Ok P (idB S).r b b' (Gr (Frame.enter P f args .normal) b) (Gr (Frame.enter P f args .normal) b'):=fun b b'=>by
  rw[en]
  exact .mk f hf (ha.fill _) (.cons (.code h3) .nil) (Or.inl rfl) .base
 exact⟨fin_of_calls hG hB hT hR ⟨0,idB S,W,_,[stopper],hwr,fun x hx=>⟨rfl,hgl x hx⟩,hgr _ _⟩ h,hwr,fun x hx=>⟨rfl,hgl x hx⟩,hgr _ _⟩
end
end Go.Proofs.YtjeicikflkjacaaGreatDoor.Par

/- A run in company: a function's text, looked through by a Boolean. -/
namespace Go.Proofs.YtjeicikflkjacaaGreatDoor.Par
open Go
def plainB:Value→Bool
 | .bool _|.int ..|.string _|.pointer none|.slice none ..|.map none|.nilFunc|.nilIface=>true
 | _=>false
def valB:Value→Bool
 | .agg x=>x.all plainB
 | .tuple x=>x.all plainB
 | v=>plainB v
variable {Ok:Cx} {P:Program}
theorem plainB_vr {v:Value}(h:plainB v=true)(γ:Nat→Nat→Prop):VR Ok γ v v:=by
 unfold plainB at h
 split at h<;>first|exact .bool _|exact .int _ _|exact .string _|exact .pnil|exact .snil _ _|exact .mnil|exact .nilFunc|exact .nilIface|cases h
theorem allB_vr {x:Array Value}(h:x.all plainB=true)(γ:Nat→Nat→Prop):AR Ok γ x x:=AR.same fun u hu=>plainB_vr (by
 rw[Array.all_eq_true_iff_forall_mem] at h
 exact h u hu) γ
theorem valB_vr {v:Value}(h:valB v=true)(γ:Nat→Nat→Prop):VR Ok γ v v:=by
 unfold valB at h
 split at h
 ·exact .agg rfl (allB_vr h γ).2
 ·exact .tuple rfl (allB_vr h γ).2
 ·exact plainB_vr h γ
variable (okB glB:Nat→Bool) (P)
def xB:Operand→Bool
 | .tmp _=>true
 | .const v=>valB v
 | .global g=>glB g
 | .func f=>okB f
def zeroB (t:TypeId):Bool:=match P.info? t with
 | some i=>match i.zero with
  | some v=>valB v
  | none=>true
 | none=>true
def sameB (t:TypeId):Bool:=match P.underlying t with
 | some .string=>true
 | some .bool=>true
 | some (.int _)=>true
 | _=>false
def intB (t:TypeId):Bool:=match P.underlying t with
 | some (.int _)=>true
 | _=>false
def strB (t:TypeId):Bool:=match P.underlying t with
 | some .string=>true
 | _=>false
def nilB:Value→Bool
 | .pointer none|.slice none 0 0|.map none|.nilFunc|.nilIface=>true
 | _=>false
def opB:Op→Bool
 | .move x=>xB okB glB x
 | .assign x=>xB okB glB x
 | .pick c a b=>xB okB glB c && xB okB glB a && xB okB glB b
 | .alloc t=>zeroB P t
 | .box _ x=>xB okB glB x
 | .build t ps=>zeroB P t && ps.all fun p=>xB okB glB p.2
 | .load _ x=>xB okB glB x
 | .store _ x y=>xB okB glB x && xB okB glB y
 | .nilCheck x=>xB okB glB x
 | .binOp op t x y _=>xB okB glB x && ((xB okB glB y && (sameB P t || !(op matches .eql|.neq))) || match y with|.const v=>nilB v|_=>false)
 | .unOp .not _ x=>xB okB glB x
 | .convert s t x=>intB P s && intB P t && xB okB glB x
 | .makeInterface _ x=>xB okB glB x
 | .makeFunc (.func f) a b=>okB f && a.all (xB okB glB) && b.all (xB okB glB)
 | .makeMap _ r=>r.all (xB okB glB)
 | .makeSlice t x y=>(match P.underlying t with|some (.slice e)=>zeroB P e|_=>true) && xB okB glB x && xB okB glB y
 | .slice t x l h m=>(match P.underlying t with|some (.array ..)=>false|some (.pointer _)=>false|_=>true) && xB okB glB x && l.all (xB okB glB) && h.all (xB okB glB) && m.all (xB okB glB)
 | .fieldAddr s x k=>(match P.underlying s with|some (.struct fs)=>(match fs[k]? with|some f=>(match P.info? f.type with|some i=>i.size != 0|none=>true)|none=>true)|_=>true) && xB okB glB x
 | .indexAddr _ x y=>xB okB glB x && xB okB glB y
 | .index t x y=>strB P t && xB okB glB x && xB okB glB y
 | .lookup t x y _=>(match P.underlying t with|some (.map k e)=>strB P k && zeroB P e|_=>false) && xB okB glB x && xB okB glB y
 | .mapUpdate t x y z=>(match P.underlying t with|some (.map k _)=>strB P k|_=>false) && xB okB glB x && xB okB glB y && xB okB glB z
 | .extract x _=>xB okB glB x
 | .call c=>(match c.callee with|.value f=>xB okB glB f|.builtin .len=>true|.builtin .copy=>true|.builtin .append=>(match c.argTypes[0]? with|some t=>(match P.underlying t with|some (.slice e)=>zeroB P e|_=>true)|none=>true) && (match c.argTypes[1]? with|some t=>!intB P t|none=>true)|_=>false) && c.args.all (xB okB glB)
 | .typeAssert x _ t _=>zeroB P t && xB okB glB x
 | .buildSlice t _ ps=>(match P.underlying t with|some (.slice e)=>zeroB P e|_=>true) && ps.all fun p=>xB okB glB p.2
 | _=>false
def codeB:Code→Bool
 | .skip=>true
 | .region _ ops _=>ops.all fun o=>opB P okB glB o.op
 | .seq a b=>codeB a && codeB b
 | .cond c a b=>xB okB glB c && codeB a && codeB b
 | .block _ b=>codeB b
 | .loop b=>codeB b
 | .exit _=>true
 | .scope b=>codeB b
 | .label _=>true
 | .goto _=>true
 | .ret=>true
 | _=>false
variable {okB glB P}
theorem xB_ok (hok:∀f,okB f=true→Ok f)(hgl:∀g,glB g=true→Ok.gl g){x:Operand}(h:xB okB glB x=true):XOk Ok P x:=by
 cases x with
 | tmp t=>exact .tmp t
 | const v=>exact .const v fun γ=>valB_vr h γ
 | global g=>exact .global g (hgl g h)
 | func f=>exact .func f (hok f h)
theorem zeroB_ok {t:TypeId}(h:zeroB P t=true):ZeroAt Ok P t:=fun i v h1 h2 γ=>by
 unfold zeroB at h
 rw[h1] at h
 dsimp only at h
 rw[h2] at h
 exact valB_vr h γ
theorem sameB_ok {t:TypeId}(h:sameB P t=true):Plain P t:=by
 unfold sameB at h
 split at h
 ·exact Or.inl ‹_›
 ·exact Or.inr (Or.inl ‹_›)
 ·exact Or.inr (Or.inr ⟨_,‹_›⟩)
 ·cases h
theorem intB_ok {t:TypeId}(h:intB P t=true):∃k,P.underlying t=some (.int k):=by
 unfold intB at h
 split at h
 ·exact⟨_,‹_›⟩
 ·cases h
theorem strB_ok {t:TypeId}(h:strB P t=true):P.underlying t=some .string:=by
 unfold strB at h
 split at h
 ·assumption
 ·cases h
theorem nilB_ok {v:Value}(h:nilB v=true):Nil v:=by
 unfold nilB at h
 split at h<;>first|exact .p|exact .s|exact .m|exact .f|exact .i|cases h
theorem arrB_ok (hok:∀f,okB f=true→Ok f)(hgl:∀g,glB g=true→Ok.gl g){a:Array Operand}(h:a.all (xB okB glB)=true):∀x∈a,XOk Ok P x:=fun x hx=>xB_ok hok hgl (by
 rw[Array.all_eq_true_iff_forall_mem] at h
 exact h x hx)
theorem optB_ok (hok:∀f,okB f=true→Ok f)(hgl:∀g,glB g=true→Ok.gl g){a:Option Operand}(h:a.all (xB okB glB)=true):∀x,a=some x→XOk Ok P x:=fun x hx=>xB_ok hok hgl (by
 rw[hx] at h
 exact h)
theorem opB_ok (hok:∀f,okB f=true→Ok f)(hgl:∀g,glB g=true→Ok.gl g){op:Op}(h:opB P okB glB op=true):OpOk Ok P op:=by
 have X:∀ {x:Operand},xB okB glB x=true→XOk Ok P x:=fun h=>xB_ok hok hgl h
 unfold opB at h
 split at h
 ·exact .move _ (X h)
 ·exact .assign _ (X h)
 ·simp only[Bool.and_eq_true] at h
  exact .pick _ _ _ (X h.1.1) (X h.1.2) (X h.2)
 ·exact .alloc _ (zeroB_ok h)
 ·exact .box _ _ (X h)
 ·simp only[Bool.and_eq_true] at h
  refine .build _ _ (zeroB_ok h.1) fun p hp=>X ?_
  have:=h.2
  rw[Array.all_eq_true_iff_forall_mem] at this
  exact this p hp
 ·exact .load _ _ (X h)
 ·simp only[Bool.and_eq_true] at h
  exact .store _ _ _ (X h.1) (X h.2)
 ·exact .nilCheck _ (X h)
 ·simp only[Bool.and_eq_true,Bool.or_eq_true] at h
  obtain⟨h1,⟨h2,h3|h3⟩|h2⟩:=h
  ·exact .same _ _ _ _ _ (X h1) (X h2) (sameB_ok h3)
  ·refine .arith _ _ _ _ _ (X h1) (X h2) ?_ ?_
   ·rintro rfl
    cases h3
   ·rintro rfl
    cases h3
  ·split at h2
   ·exact .isNil _ _ _ _ _ (X h1) (nilB_ok h2)
   ·cases h2
 ·exact .not _ _ (X h)
 ·simp only[Bool.and_eq_true] at h
  obtain⟨k,h1⟩:=intB_ok h.1.1
  obtain⟨k',h2⟩:=intB_ok h.1.2
  exact .conv _ _ k k' _ h1 h2 (X h.2)
 ·exact .iface _ _ (X h)
 ·simp only[Bool.and_eq_true] at h
  exact .func _ _ _ (hok _ h.1.1) (arrB_ok hok hgl h.1.2) (arrB_ok hok hgl h.2)
 ·exact .mkMap _ _ (optB_ok hok hgl h)
 ·simp only[Bool.and_eq_true] at h
  refine .mkSlice _ _ _ (fun e he=>?_) (X h.1.2) (X h.2)
  have:=h.1.1
  rw[he] at this
  exact zeroB_ok this
 ·simp only[Bool.and_eq_true] at h
  have h0:=h.1.1.1.1
  refine .slice _ _ _ _ _ (fun n e he=>?_) (fun e he=>?_) (X h.1.1.1.2) (optB_ok hok hgl h.1.1.2) (optB_ok hok hgl h.1.2) (optB_ok hok hgl h.2)
  ·rw[he] at h0
   cases h0
  ·rw[he] at h0
   cases h0
 ·simp only[Bool.and_eq_true] at h
  refine .field _ _ _ (fun fs f i h1 h2 h3=>?_) (X h.2)
  have h0:=h.1
  rw[h1] at h0
  dsimp only at h0
  rw[h2] at h0
  dsimp only at h0
  rw[h3] at h0
  simpa using h0
 ·simp only[Bool.and_eq_true] at h
  exact .index _ _ _ (X h.1) (X h.2)
 ·simp only[Bool.and_eq_true] at h
  exact .at_ _ _ _ (strB_ok h.1.1) (X h.1.2) (X h.2)
 ·simp only[Bool.and_eq_true] at h
  have h0:=h.1.1
  split at h0
  ·rename_i hu
   simp only[Bool.and_eq_true] at h0
   exact .lookup _ _ _ _ _ _ hu (strB_ok h0.1) (zeroB_ok h0.2) (X h.1.2) (X h.2)
  ·cases h0
 ·simp only[Bool.and_eq_true] at h
  have h0:=h.1.1.1
  split at h0
  ·rename_i hu
   exact .update _ _ _ _ _ _ hu (strB_ok h0) (X h.1.1.2) (X h.1.2) (X h.2)
  ·cases h0
 ·exact .extract _ _ (X h)
 ·rename_i c
  simp only[Bool.and_eq_true] at h
  obtain⟨callee,args,ats⟩:=c
  have h0:=h.1
  have ha:=arrB_ok (P:=P) hok hgl h.2
  dsimp only at h0
  split at h0
  ·exact .call _ _ _ (X h0) ha
  ·exact .len _ _ ha
  ·exact .copy _ _ ha
  ·simp only[Bool.and_eq_true] at h0
   refine .append _ _ (fun t e ht he=>?_) (fun t k ht he=>?_) ha
   ·have h1:=h0.1
    rw[ht] at h1
    dsimp only at h1
    rw[he] at h1
    exact zeroB_ok h1
   ·have h1:=h0.2
    rw[ht] at h1
    dsimp only at h1
    simp[intB,he] at h1
  ·cases h0
 ·simp only[Bool.and_eq_true] at h
  exact .assert _ _ _ _ (zeroB_ok h.1) (X h.2)
 ·simp only[Bool.and_eq_true] at h
  refine .buildS _ _ _ (fun e he=>?_) fun p hp=>X ?_
  ·have:=h.1
   rw[he] at this
   exact zeroB_ok this
  ·have:=h.2
   rw[Array.all_eq_true_iff_forall_mem] at this
   exact this p hp
 ·cases h
theorem codeB_ok (hok:∀f,okB f=true→Ok f)(hgl:∀g,glB g=true→Ok.gl g):∀ {c:Code},codeB P okB glB c=true→CodeOk Ok P c
 | .skip,_=>.skip
 | .region id ops draw,h=>.region id ops draw fun o ho=>opB_ok hok hgl (by
   unfold codeB at h
   rw[Array.all_eq_true_iff_forall_mem] at h
   exact h o ho)
 | .seq a b,h=>by
  simp only[codeB,Bool.and_eq_true] at h
  exact .seq (codeB_ok hok hgl h.1) (codeB_ok hok hgl h.2)
 | .cond c a b,h=>by
  simp only[codeB,Bool.and_eq_true] at h
  exact .cond c (xB_ok hok hgl h.1.1) (codeB_ok hok hgl h.1.2) (codeB_ok hok hgl h.2)
 | .block id b,h=>.block id (codeB_ok hok hgl (by simpa only [codeB] using h))
 | .loop b,h=>.loop (codeB_ok hok hgl (by simpa only [codeB] using h))
 | .exit id,_=>.exit id
 | .scope b,h=>.scope (codeB_ok hok hgl (by simpa only [codeB] using h))
 | .label l,_=>.label l
 | .goto l,_=>.goto l
 | .ret,_=>.ret
 | .rangeFunc ..,h=>by simp[codeB] at h
 | .refuse _,h=>by simp[codeB] at h
end Go.Proofs.YtjeicikflkjacaaGreatDoor.Par
