/- A run in a memory of one's own: states that stay good, whatever the tape. -/
import Derived.Test.YtjeicikflkjacaaGreatDoorM20
import Derived.Calls
namespace Go.Proofs.YtjeicikflkjacaaGreatDoor.Par
open Go
variable {Ok:Cx} {P:Program} {β:Bij} {E:Nat}
inductive GR (Ok:Cx) (P:Program) (γ:Nat→Nat→Prop) (base base':List Frame):Goroutine→Goroutine→Prop
 | mk (f:FuncId) (hf:Ok f) {t t':Array Value} (ht:AR Ok γ t t') {k:List Item} (hk:KOk Ok P k) {m:FrameMode} (hm:m=.run∨m=.returning) {cs cs':List Frame} (hs:StkR Ok P γ base base' cs cs'):GR Ok P γ base base' (Gr (Fm f t k m) cs) (Gr (Fm f t' k m) cs')
def AtEnd (base:List Frame)(g:Goroutine):Prop:=g.frame.mode=.returning∧g.callers=base
def Calm (g:Goroutine):Prop:=∀ch,g.frame.mode≠.panicking ch
theorem WR.on {v W:World}(h:WR Ok E β v W)(τ:Nat→Question→Nat)(d E':Nat):WR Ok E' β (Par.on v τ d) (Par.on W τ d):=⟨h.obj,fun _ _ _=>rfl,h.gl,h.vg,h.wg,h.sh⟩
theorem results_step {main:Bool}{f:FuncId}{fn:Func}(hf:P.funcs[f]?=some fn){t:Array Value}{k:List Item}{c:Frame}{cs:List Frame}{v v1:World}{u:Value}{es:Array Event}(hr:(results fn t).runT P v #[]=(.ok u v1,es)):stepG P main (Gr (Fm f t k .returning) (c :: cs)) v=.go (Gr (c.finish u) cs) v1 (seen P f es):=by
 have h2:(results fn t).run P v=.ok u v1:=by rw[←Sem.runT_fst P _ v #[],hr]
 have h3:(results fn t).events P v #[]=es:=by unfold Sem.events;rw[hr]
 simp[stepG,unwind,doReturn,hf,h2,h3,GStep.after]
theorem ret_draws {v W:World}{τ:Nat→Question→Nat}{d:Nat}(hW:WR Ok E β (on v τ d) W){f:FuncId}{fn:Func}(hf:P.funcs[f]?=some fn){t t':Array Value}(ht:AR Ok β.r t t')(k:List Item)(main:Bool)(c:Frame)(cs:List Frame):SD (stepG P main (Gr (Fm f t k .returning) (c :: cs))) v τ d:=by
 intro g1 v1 es h hp
 dsimp only at h
 have hs:=sim_results (P:=P) fn ht
 cases hr:(results fn t).runT P (on v τ d) #[] with
 | mk r es2 =>
  cases r with
  | halt q w =>
   have h2:(results fn t).run P (on v τ d)=.halt q w:=by rw[←Sem.runT_fst P _ _ #[],hr]
   have:∃o es2,stepG P main (Gr (Fm f t k .returning) (c :: cs)) (on v τ d)=.ended o w es2:=by
    cases q<;>exact⟨_,_,by simp[stepG,unwind,hf,h2,GStep.after];first|done|exact⟨rfl,rfl⟩⟩
   obtain⟨o,es3,e⟩:=this
   rw[e] at h
   cases h
  | ok n w =>
   obtain⟨m,u,rfl,h2⟩:=hs.draws hW hr
   rw[results_step hf hr] at h
   injection h with h3 h4 h5
   subst h3
   subst h4
   subst h5
   exact⟨m,u,rfl,fun τ' d' ha=>results_step hf (h2 τ' d' ha)⟩
def Good (Ok:Cx)(P:Program)(base:List Frame)(g:Goroutine)(v:World):Prop:=∃(E:Nat) (β:Bij) (W:World) (g':Goroutine) (base':List Frame),WR Ok E β v W∧(∀x,Ok.gl x→β.r x x)∧GR Ok P β.r base base' g g'
theorem Good.on {base:List Frame}{g:Goroutine}{v:World}(h:Good Ok P base g v)(τ:Nat→Question→Nat)(d:Nat):Good Ok P base g (Par.on v τ d):=by
 obtain⟨E,β,W,g',b',h1,h2,h3⟩:=h
 exact⟨E,β,_,g',b',h1.on τ d E,h2,h3⟩
theorem GR.step (hG:Ok.G=P.globals.size)(hB:Bodies Ok P)(hT:Texts Ok P)(hgl:∀x,Ok.gl x→β.r x x){base base':List Frame}{g g':Goroutine}{v W:World}(hW:WR Ok E β v W)(h:GR Ok P β.r base base' g g')(hne:¬AtEnd base g)(main main':Bool){g1:Goroutine}{v1:World}{es:Array Event}(hs:stepG P main g v=.go g1 v1 es)(hp:Calm g1)(hE:v1.drawn≤E) :
  ∃γ g1' W1 es',stepG P main' g' W=.go g1' W1 es'∧GR Ok P γ.r base base' g1 g1'∧WR Ok E γ v1 W1∧Fr β γ v W v1 W1∧EsR Ok.sh γ.r es es':=by
 cases h with
 | @mk f hf t t' ht k hk m hm cs cs' hst =>
  rcases hm with rfl|rfl
  ·have hst2:=step_run hG hB hT hgl hW f ht k hk main main' cs cs'
   generalize hy:stepG P main' (Gr (Fm f t' k .run) cs') W=y at hst2
   rw[hs] at hst2
   cases hst2 with
   | go γ hW1 hF he ht1 hk1 hm1=>exact⟨γ,_,_,_,rfl,.mk f hf ht1 hk1 hm1 (hst.mono hF.le),hW1,hF,he⟩
   | enter γ hf2 hW1 hF he ht2 hc=>exact⟨γ,_,_,_,rfl,.mk _ hf2 ht2 (.cons (.code hc) .nil) (Or.inl rfl) (.push f hf (ht.mono hF.le) hk (hst.mono hF.le)),hW1,hF,he⟩
   | panics ch=>exact absurd rfl (hp ch)
   | far _ _ _ _ hlt=>omega
  ·cases hst with
   | base=>exact absurd ⟨rfl,rfl⟩ hne
   | @push f2 hf2 t2 t2' ht2 k2 hk2 cs cs' hst =>
    obtain⟨fn,c,hfn,_,_⟩:=hT f hf
    have hst2:=step_ret hW hfn ht k main main' (Fm f2 t2 k2 .run) (Fm f2 t2' k2 .run) cs cs'
    generalize hy:stepG P main' (Gr (Fm f t' k .returning) (Fm f2 t2' k2 .run :: cs')) W=y at hst2
    rw[hs] at hst2
    cases hst2 with
    | back γ hu hW1 hF he =>
     obtain⟨t1,t1',k1,e1,e2,ht1,hk1⟩:=finish_like f2 (ht2.mono hF.le) k2 hk2 .run hu
     refine⟨γ,_,_,_,rfl,?_,hW1,hF,he⟩
     rw[e1,e2]
     exact .mk f2 hf2 ht1 hk1 (Or.inl rfl) (hst.mono hF.le)
    | far _ _ _ _ hlt=>omega
theorem Good.step (hG:Ok.G=P.globals.size)(hB:Bodies Ok P)(hT:Texts Ok P){base:List Frame}{g:Goroutine}{v:World}(h:Good Ok P base g v)(hne:¬AtEnd base g)(main:Bool)(τ:Nat→Question→Nat)(d:Nat):SD (stepG P main g) v τ d∧∀g1 v1 es,stepG P main g (Par.on v τ d)=.go g1 v1 es→Calm g1→Good Ok P base g1 v1:=by
 obtain⟨E,β,W,g',b',hW,hgl,hg⟩:=h
 refine⟨?_,fun g1 v1 es hs hp=>?_⟩
 ·cases hg with
  | @mk f hf t t' ht k hk m hm cs cs' hst =>
   rcases hm with rfl|rfl
   ·exact step_draws hG hB hgl (hW.on τ d E) f ht k hk main cs
   ·cases hst with
    | base=>exact absurd ⟨rfl,rfl⟩ hne
    | push f2 hf2 ht2 hk2 hst =>
     obtain⟨fn,c,hfn,_,_⟩:=hT f hf
     exact ret_draws (hW.on τ d E) hfn ht k main _ _
 ·obtain⟨γ,g1',W1,es',_,hg1,hW1,hF,_⟩:=GR.step hG hB hT hgl (hW.on τ d v1.drawn) hg hne main main hs hp (Nat.le_refl _)
  exact⟨_,γ,W1,g1',b',hW1,fun x hx=>hF.le _ _ (hgl x hx),hg1⟩
end Go.Proofs.YtjeicikflkjacaaGreatDoor.Par

/- A run in a memory of one's own that ends under every tape: the tree of its states is well-founded. -/
namespace Go.Proofs.YtjeicikflkjacaaGreatDoor.Par
open Go
variable {Ok:Cx} {P:Program} {main:Bool} {base:List Frame} {R:Value→World→Prop}
inductive Chain (P:Program) (main:Bool) (base:List Frame):Nat→Goroutine→World→Goroutine→World→Prop
 | nil (g:Goroutine) (v:World):Chain P main base 0 g v g v
 | cons {n:Nat} {g g1 g2:Goroutine} {v v1 v2:World} {es:Array Event} (hne:¬AtEnd base g) (h:stepG P main g v=.go g1 v1 es) (hp:Calm g1) (hc:Chain P main base n g1 v1 g2 v2):Chain P main base (n+1) g v g2 v2
def Ends (P:Program)(main:Bool)(base:List Frame)(R:Value→World→Prop)(g:Goroutine)(v:World):Prop:=∃n g2 v2 u,Chain P main base n g v g2 v2∧AtEnd base g2∧g2.frame.leaving P v2 (.returned u)∧R u v2
inductive Fin (P:Program) (main:Bool) (base:List Frame) (R:Value→World→Prop):Goroutine→World→Prop
 | stop {g:Goroutine} {v:World} {u:Value} (τ:Nat→Question→Nat) (d:Nat) (he:AtEnd base g) (hl:g.frame.leaving P (on v τ d) (.returned u)) (hR:R u (on v τ d)):Fin P main base R g v
 | step {g:Goroutine} {v:World} (hne:¬AtEnd base g) (h1:∀τ d,∃g1 v1 es,stepG P main g (on v τ d)=.go g1 v1 es∧Calm g1) (h:∀τ d g1 v1 es,stepG P main g (on v τ d)=.go g1 v1 es→Fin P main base R g1 v1):Fin P main base R g v
theorem Good.at {g:Goroutine}{u:World}{τ:Nat→Question→Nat}{d:Nat}(h:Good Ok P base g (Par.on u τ d)):Good Ok P base g u:=by
 obtain⟨E,β,W,g',b',a1,a2,a3⟩:=h
 exact⟨E,β,_,g',b',(a1.on u.tape u.drawn E:WR Ok E β (Par.on u u.tape u.drawn) _),a2,a3⟩
theorem Chain.det:∀ {n:Nat} {g g2:Goroutine} {v v2:World},Chain P main base n g v g2 v2→∀(s:Nat→Goroutine) (w:Nat→World),s 0=g→w 0=v→(∀k,∃es,stepG P main (s k) (w k)=.go (s (k+1)) (w (k+1)) es)→g2=s n∧v2=w n
 | 0,_,_,_,_,hc,s,w,h0,h1,_=>by
  cases hc
  exact⟨h0.symm,h1.symm⟩
 | n+1,g,g2,v,v2,hc,s,w,h0,h1,hs=>by
  cases hc with
  | cons hne h hp hc =>
   obtain⟨es,e⟩:=hs 0
   rw[h0,h1,h] at e
   injection e with e1 e2 _
   exact Chain.det hc (fun k=>s (k+1)) (fun k=>w (k+1)) e1.symm e2.symm fun k=>hs (k+1)
structure Nx (P:Program)(main:Bool)(p:Goroutine × World)(τ:Nat→Question→Nat)(d m:Nat)(p':Goroutine × World):Prop where
 ex:∀τ' d',Ag m τ d τ' d'→∃es,stepG P main p.1 (on p.2 τ' d')=.go p'.1 (on p'.2 τ' (d'+m)) es
theorem tape_of (τ:Nat→Nat→Question→Nat)(d m:Nat→Nat):∃(T:Nat→Question→Nat) (D:Nat→Nat),D 0=0∧(∀n,D (n+1)=D n+m n)∧∀n,Ag (m n) (τ n) (d n) T (D n):=by
 classical
 let D:Nat→Nat:=fun n=>Nat.rec 0 (fun k s=>s+m k) n
 have hD:∀n,D (n+1)=D n+m n:=fun n=>rfl
 have mono:∀a b,a≤b→D a≤D b:=fun a b h=>by
  induction h with
  | refl=>exact Nat.le_refl _
  | step _ ih=>exact Nat.le_trans ih (by rw[Nat.succ_eq_add_one,hD];omega)
 let T:Nat→Question→Nat:=fun p q=>if h:∃n,D n≤p∧p<D (n+1) then τ h.choose (d h.choose+(p - D h.choose)) q else 0
 refine⟨T,D,rfl,hD,fun n i hi q=>?_⟩
 have hex:∃k,D k≤D n+i∧D n+i<D (k+1):=⟨n,by omega,by rw[hD];omega⟩
 have hk:=hex.choose_spec
 have e:hex.choose=n:=by
  rcases Nat.lt_trichotomy hex.choose n with h|h|h
  ·have:=mono (hex.choose+1) n h
   omega
  ·exact h
  ·have:=mono (n+1) hex.choose h
   rw[hD] at this
   omega
 show (if h:∃n',D n'≤D n+i∧D n+i<D (n'+1) then τ h.choose (d h.choose+(D n+i - D h.choose)) q else 0)=_
 rw[dif_pos hex,e,show D n+i - D n=i by omega]
end Go.Proofs.YtjeicikflkjacaaGreatDoor.Par

/- A run in a memory of one's own that ends under every tape comes to its end whatever is answered on the way. -/
namespace Go.Proofs.YtjeicikflkjacaaGreatDoor.Par
open Go
variable {Ok:Cx} {P:Program} {main:Bool} {base:List Frame} {R:Value→World→Prop}
theorem Fin.on {g:Goroutine}{v:World}(h:Fin P main base R g v)(τ:Nat→Question→Nat)(d:Nat):Fin P main base R g (Par.on v τ d):=by
 cases h with
 | stop τ' d' he hl hR=>exact .stop τ' d' he hl hR
 | step hne h1 h=>exact .step hne h1 h
theorem on_eq {v u:World}{τ τ':Nat→Question→Nat}{d m d':Nat}(e:on v τ d=on u τ (d+m)):m=0∧on u τ' d'=on v τ' d':=by
 have h1:v.heap=u.heap:=by
  have:=congrArg World.heap e
  exact this
 have h2:d=d+m:=by
  have:=congrArg World.drawn e
  exact this
 have h3:v.os=u.os:=by
  have:=congrArg World.os e
  exact this
 have h4:v.output=u.output:=by
  have:=congrArg World.output e
  exact this
 refine⟨by omega,?_⟩
 unfold Par.on
 rw[h1,h3,h4]
theorem leave_tape {g:Goroutine}{v:World}(hg:Good Ok P base g v){u:Value}{τ:Nat→Question→Nat}{d:Nat}(hl:g.frame.leaving P (on v τ d) (.returned u))(τ':Nat→Question→Nat)(d':Nat):g.frame.leaving P (on v τ' d') (.returned u):=by
 obtain⟨E,β,W,g',b',hW,hgl,hg⟩:=hg
 obtain⟨h1,h2,h3,fn,h4,h5⟩:=hl
 refine⟨h1,h2,h3,fn,h4,?_⟩
 cases hg with
 | mk f hf ht hk hm hs =>
  have hr:(results fn _).runT P (on v τ d) #[]=(.ok u (on v τ d),(results fn _).events P (on v τ d) #[]):=Prod.ext (by rw[Sem.runT_fst];exact h5) rfl
  obtain⟨m,w,e,hex⟩:=(sim_results (P:=P) fn ht).draws (hW.on τ d E) hr
  obtain⟨rfl,e2⟩:=on_eq (τ':=τ') (d':=d') e
  have:=hex τ' d' (fun i hi=>by omega)
  rw[←Sem.runT_fst P _ _ #[],this,Nat.add_zero,e2]
theorem Chain.good (hG:Ok.G=P.globals.size)(hB:Bodies Ok P)(hT:Texts Ok P){n:Nat}{g g2:Goroutine}{v v2:World}(hc:Chain P main base n g v g2 v2):Good Ok P base g v→Good Ok P base g2 v2:=by
 induction hc with
 | nil=>exact id
 | @cons n g g1 g2 v v1 v2 es hne h hp _ ih=>exact fun hg=>ih ((hg.step hG hB hT hne main v.tape v.drawn).2 _ _ _ h hp)
theorem Chain.retape (hG:Ok.G=P.globals.size)(hB:Bodies Ok P)(hT:Texts Ok P):∀ {n:Nat} {g g2:Goroutine} {v v2:World} {τ:Nat→Question→Nat} {d:Nat},Good Ok P base g v→Chain P main base n g (on v τ d) g2 v2→∀τ' d',(∀m,Ag m τ d τ' d')→∃w m,v2=on w τ (d+m)∧Chain P main base n g (on v τ' d') g2 (on w τ' (d'+m))
 | 0,g,g2,v,v2,τ,d,hg,hc,τ',d',ha=>by
  cases hc
  exact⟨v,0,rfl,.nil _ _⟩
 | n+1,g,g2,v,v2,τ,d,hg,hc,τ',d',ha=>by
  cases hc with
  | @cons _ _ g1 _ _ v1 _ es hne h hp hc =>
   have hst:=hg.step hG hB hT hne main τ d
   obtain⟨m,u,rfl,hex⟩:=hst.1 g1 v1 es h hp
   obtain⟨w,m2,e,hc2⟩:=Chain.retape hG hB hT (v:=u) (hst.2 g1 _ es h hp).at hc τ' (d'+m) (fun m3 i hi q=>by
    have:=ha (m+m3) (m+i) (by omega) q
    rw[show d'+m+i=d'+(m+i) by omega,show d+m+i=d+(m+i) by omega]
    exact this)
   refine⟨w,m+m2,by rw[e,show d+m+m2=d+(m+m2) by omega],?_⟩
   rw[show d'+(m+m2)=d'+m+m2 by omega]
   exact .cons hne (hex τ' d' (ha m)) hp hc2
theorem ends_next (hG:Ok.G=P.globals.size)(hB:Bodies Ok P)(hT:Texts Ok P)(hR:∀u w τ d,R u w→R u (on w τ d)){g g1:Goroutine}{v u:World}(hne:¬AtEnd base g)(hC:∀τ d,Ends P main base R g (on v τ d)){τ0:Nat→Question→Nat}{d0 m:Nat}{es:Array Event}(hg1:Good Ok P base g1 u)
  (hex:∀τ' d',Ag m τ0 d0 τ' d'→stepG P main g (on v τ' d')=.go g1 (on u τ' (d'+m)) es) (τ:Nat→Question→Nat) (d:Nat):Ends P main base R g1 (on u τ d):=by
 let T:Nat→Question→Nat:=fun p q=>if p<m then τ0 (d0+p) q else τ (d+(p - m)) q
 have hT0:Ag m τ0 d0 T 0:=fun i hi q=>by
  show (if 0+i<m then τ0 (d0+(0+i)) q else _)=_
  rw[if_pos (by omega),Nat.zero_add]
 obtain⟨n,g2,v2,x,hc,he,hl,hx⟩:=hC T 0
 cases hc with
 | nil=>exact absurd he hne
 | cons hne h hp hc =>
  rw[hex T 0 hT0] at h
  injection h with e1 e2 _
  subst e1
  subst e2
  have hgood:=hc.good hG hB hT (hg1.on T (0+m))
  obtain⟨w,m2,e,hc2⟩:=Chain.retape hG hB hT hg1 hc τ d fun m3 i hi q=>by
   show _=(if 0+m+i<m then _ else τ (d+(0+m+i - m)) q)
   rw[if_neg (by omega),show 0+m+i - m=i by omega]
  subst e
  exact⟨_,g2,_,x,hc2,he,leave_tape hgood.at hl _ _,(hR x _ τ (d+m2) hx:R x (on (on w T (0+m+m2)) τ (d+m2)))⟩
theorem fin_of (hG:Ok.G=P.globals.size)(hB:Bodies Ok P)(hT:Texts Ok P)(hR:∀u w τ d,R u w→R u (on w τ d)){g:Goroutine}{v:World}(hg:Good Ok P base g v)(hC:∀τ d,Ends P main base R g (on v τ d)):Fin P main base R g v:=by
 classical
 refine Classical.byContradiction fun hnf=>?_
 let X:={ p:Goroutine × World // Good Ok P base p.1 p.2∧¬Fin P main base R p.1 p.2∧∀τ d,Ends P main base R p.1 (on p.2 τ d) }
 have next:∀p:X,∃(τ:Nat→Question→Nat) (d m:Nat) (p':X),Nx P main p.1 τ d m p'.1:=by
  rintro ⟨⟨g,v⟩,hg,hnf,hC⟩
  dsimp only at hg hnf hC
  have hne:¬AtEnd base g:=fun he=>by
   obtain⟨n,g2,v2,u,hc,_,hl,hu⟩:=hC v.tape v.drawn
   cases hc with
   | nil=>exact hnf (.stop _ _ he hl hu)
   | cons hne=>exact hne he
  have hgo:∀τ d,∃g1 v1 es,stepG P main g (on v τ d)=.go g1 v1 es∧Calm g1:=fun τ d=>by
   obtain⟨n,g2,v2,u,hc,he,_⟩:=hC τ d
   cases hc with
   | nil=>exact absurd he hne
   | cons _ h hp _=>exact⟨_,_,_,h,hp⟩
  have:∃τ d g1 v1 es,stepG P main g (on v τ d)=.go g1 v1 es∧¬Fin P main base R g1 v1:=Classical.byContradiction fun hno=>hnf (.step hne hgo fun τ d g1 v1 es h=>Classical.byContradiction fun hf=>hno ⟨τ,d,g1,v1,es,h,hf⟩)
  obtain⟨τ,d,g1,v1,es,h,hf⟩:=this
  have hp:Calm g1:=by
   obtain⟨g3,v3,es3,h3,hp⟩:=hgo τ d
   rw[h] at h3
   injection h3 with e1 _ _
   exact e1 ▸ hp
  have hst:=hg.step hG hB hT hne main τ d
  obtain⟨m,u,rfl,hex⟩:=hst.1 g1 v1 es h hp
  have hg1:=(hst.2 g1 _ es h hp).at
  exact⟨τ,d,m,⟨(g1,u),hg1,fun q=>hf (q.on _ _),fun τ d=>ends_next hG hB hT hR hne hC hg1 hex τ d⟩,⟨fun τ' d' ha=>⟨es,hex τ' d' ha⟩⟩⟩
 let tp:X→Nat→Question→Nat:=fun p=>(next p).choose
 let dd:X→Nat:=fun p=>(next p).choose_spec.choose
 let mm:X→Nat:=fun p=>(next p).choose_spec.choose_spec.choose
 let nx:X→X:=fun p=>(next p).choose_spec.choose_spec.choose_spec.choose
 have hnx:∀p:X,Nx P main p.1 (tp p) (dd p) (mm p) (nx p).1:=fun p=>(next p).choose_spec.choose_spec.choose_spec.choose_spec
 let x:Nat→X:=fun n=>Nat.rec ⟨(g,v),hg,hnf,hC⟩ (fun _ p=>nx p) n
 obtain⟨T,D,hD0,hD,hAg⟩:=tape_of (fun n=>tp (x n)) (fun n=>dd (x n)) (fun n=>mm (x n))
 obtain⟨n,g2,v2,u,hc,he,hl,hu⟩:=hC T 0
 obtain⟨e1,e2⟩:=hc.det (fun k=>(x k).1.1) (fun k=>on (x k).1.2 T (D k)) rfl (by show on v T (D 0)=on v T 0;rw[hD0]) fun k=>by
  obtain⟨es,h⟩:=(hnx (x k)).ex T (D k) (hAg k)
  refine⟨es,?_⟩
  rw[hD k]
  exact h
 subst e1
 subst e2
 exact (x n).2.2.1 (.stop T (D n) he hl hu)
end Go.Proofs.YtjeicikflkjacaaGreatDoor.Par

/- From a contract of the lone machine to a run that comes to its end whatever is answered on the way. -/
namespace Go.Proofs.YtjeicikflkjacaaGreatDoor.Par
open Go
variable {Ok:Cx} {P:Program} {R:Value→World→Prop}
def stopper : Frame := { fn := 0, tmps := #[], todo := [.code (.refuse "")], defers := [{ target := .nil, args := #[] }], mode := .run, kind := .normal }
inductive Doomed:Frame→List Frame→Prop
 | pan (f:FuncId) (t:Array Value) (k:List Item) (ch:List PanicEntry) (cs:List Frame) (h:∀c∈cs,∃f t k,c=Fm f t k .run):Doomed (Fm f t k (.panicking ch)) (cs++[stopper])
 | back:Doomed stopper []
 | hit (ch:List PanicEntry):Doomed { stopper with mode:=.panicking ch } []
theorem Doomed.never {fr:Frame}{cs:List Frame}(h:Doomed fr cs):∀(n:Nat) (w:World) (fr2:Frame) (w2:World),fr2.mode=.returning→runN P n (lone fr cs w)≠.next (lone fr2 [stopper] w2):=by
 intro n
 induction n generalizing fr cs with
 | zero =>
  intro w fr2 w2 hm hr
  have e:lone fr cs w=lone fr2 [stopper] w2:=by
   have:Stepped.next (lone fr cs w)=.next (lone fr2 [stopper] w2):=hr
   injection this
  have e1:fr=fr2:=by
   have:=congrArg (fun m:Machine=>m.gs[0]?.map (·.frame)) e
   simpa [lone] using this
  have e2:cs=[stopper]:=by
   have:=congrArg (fun m:Machine=>m.gs[0]?.map (·.callers)) e
   simpa [lone] using this
  subst e1
  cases h with
  | pan=>cases hm
  | back=>cases e2
  | hit=>cases e2
 | succ n ih =>
  intro w fr2 w2 hm hr
  have key:(∃o w',step P (lone fr cs w)=.ended o w')∨∃fr1 cs1 w1,step P (lone fr cs w)=.next (lone fr1 cs1 w1)∧Doomed fr1 cs1:=by
   cases h with
   | back =>
    exact Or.inl ⟨_,_,step_lone_ended (w':=w) rfl⟩
   | hit ch =>
    refine Or.inl ⟨_, _, step_lone_ended (o := .unsupported (.noEntry "machine/Return: a deferred call of a nil function value, made while the frame is unwinding") (Frame.pos P { stopper with mode := .panicking ch, defers := [] })) (w' := w) ?_⟩
    rfl
   | pan f t k ch cs hcs =>
    by_cases hq:(Fm f t k (.panicking ch)).catches P=true
    ·refine Or.inl ⟨_, _, step_lone_ended (o := .unsupported (.noEntry "a panic or Goexit out of a method that fmt calls behind a cut's door") (Frame.pos P (Fm f t k (.panicking ch)))) (w' := w) ?_⟩
     cases cs<;>simp[stepG,unwind,hq]
    ·cases cs with
     | nil =>
      refine Or.inr ⟨_,_,w,step_lone_go (fr':={ stopper with mode:=.panicking ch }) (cs':=[]) (w':=w) ?_,.hit ch⟩
      simp[stepG,unwind,hq,Frame.raise,stopper]
     | cons c cs =>
      obtain⟨f2,t2,k2,rfl⟩:=hcs c (by simp)
      refine Or.inr ⟨_,_,w,step_lone_go (fr':=Fm f2 t2 k2 (.panicking ch)) (cs':=cs++[stopper]) (w':=w) ?_,.pan f2 t2 k2 ch cs fun c hc=>hcs c (by simp[hc])⟩
      simp[stepG,unwind,hq,Frame.raise]
  rcases key with⟨o,w',e⟩|⟨fr1,cs1,w1,e,hd⟩
  ·simp[runN,e] at hr
  ·simp only[runN,e] at hr
   exact ih hd w1 fr2 w2 hm hr
end Go.Proofs.YtjeicikflkjacaaGreatDoor.Par

/- From a contract of the lone machine to a run that comes to its end whatever is answered on the way. -/
namespace Go.Proofs.YtjeicikflkjacaaGreatDoor.Par
open Go
variable {Ok:Cx} {P:Program} {R:Value→World→Prop}
theorem StkR.form {γ:Nat→Nat→Prop}{base base' cs cs':List Frame}(h:StkR Ok P γ base base' cs cs'):∃cs0,cs=cs0++base∧∀c∈cs0,∃f t k,c=Fm f t k .run:=by
 induction h with
 | base=>exact⟨[],rfl,fun c hc=>by cases hc⟩
 | @push f hf t t' ht k hk cs cs' _ ih =>
  obtain⟨cs0,e,h⟩:=ih
  refine⟨Fm f t k .run :: cs0,by rw[e];rfl,fun c hc=>?_⟩
  rcases List.mem_cons.1 hc with rfl|hc
  ·exact⟨f,t,k,rfl⟩
  ·exact h c hc
theorem lone_eq {fr fr2:Frame}{cs cs2:List Frame}{w w2:World}(e:lone fr cs w=lone fr2 cs2 w2):fr=fr2∧cs=cs2∧w=w2:=by
 refine⟨?_,?_,?_⟩
 ·have:=congrArg (fun m:Machine=>m.gs[0]?.map (·.frame)) e
  simpa [lone] using this
 ·have:=congrArg (fun m:Machine=>m.gs[0]?.map (·.callers)) e
  simpa [lone] using this
 ·exact congrArg (fun m:Machine=>m.world) e
theorem lone_go {fr fr1:Frame}{cs cs1:List Frame}{w w1:World}{es:Array Event}(h:stepG P true (Gr fr cs) w=.go (Gr fr1 cs1) w1 es):step P (lone fr cs w)=.next (lone fr1 cs1 w1):=step_lone_go (by rw[h];rfl)
theorem lone_ended {fr:Frame}{cs:List Frame}{w w1:World}{o:Outcome}{es:Array Event}(h:stepG P true (Gr fr cs) w=.ended o w1 es):step P (lone fr cs w)=.ended o w1:=step_lone_ended (by rw[h];rfl)
def drawnOf:GStep→Nat
 | .go _ w _=>w.drawn
 | _=>0
theorem chain_of_steps (hG:Ok.G=P.globals.size)(hB:Bodies Ok P)(hT:Texts Ok P){fr2:Frame}{w2:World}(hm2:fr2.mode=.returning):∀(n:Nat) (fr:Frame) (cs:List Frame) (w:World),Good Ok P [stopper] (Gr fr cs) w→runN P n (lone fr cs w)=.next (lone fr2 [stopper] w2)→Chain P true [stopper] n (Gr fr cs) w (Gr fr2 [stopper]) w2
 | 0,fr,cs,w,hg,hr=>by
  have e:lone fr cs w=lone fr2 [stopper] w2:=by
   have:Stepped.next (lone fr cs w)=.next (lone fr2 [stopper] w2):=hr
   injection this
  obtain⟨rfl,rfl,rfl⟩:=lone_eq e
  exact .nil _ _
 | n+1,fr,cs,w,hg,hr=>by
  have lost:∀ {fr1:Frame} {cs1:List Frame} {w1:World} {es:Array Event},stepG P true (Gr fr cs) w=.go (Gr fr1 cs1) w1 es→Doomed fr1 cs1→False:=fun h hd=>by
   simp only[runN,lone_go h] at hr
   exact hd.never n _ _ _ hm2 hr
  have over:∀ {o:Outcome} {w1:World} {es:Array Event},stepG P true (Gr fr cs) w=.ended o w1 es→False:=fun h=>by
   simp[runN,lone_ended h] at hr
  have on_:∀ {fr1:Frame} {cs1:List Frame} {w1:World} {es:Array Event},¬AtEnd [stopper] (Gr fr cs)→stepG P true (Gr fr cs) w=.go (Gr fr1 cs1) w1 es→Calm (Gr fr1 cs1)→Chain P true [stopper] (n+1) (Gr fr cs) w (Gr fr2 [stopper]) w2:=fun {fr1 cs1 w1 es} hne h hp=>by
   have hg1:=(hg.step hG hB hT hne true w.tape w.drawn).2 _ _ _ h hp
   simp only[runN,lone_go h] at hr
   exact .cons hne h hp (chain_of_steps hG hB hT hm2 n fr1 cs1 w1 hg1 hr)
  obtain⟨E,β,W,g',b',hW,hgl,hgr⟩:=hg
  generalize hgq:Gr fr cs=g at hgr
  cases hgr with
  | @mk f hf t t' ht k hk m hm cs1 cs' hst =>
   injection hgq with e1 e2
   subst e1
   subst e2
   have hW2:=hW.on w.tape w.drawn (drawnOf (stepG P true (Gr (Fm f t k m) cs) w))
   rcases hm with rfl|rfl
   ·have hst2:=step_run hG hB hT hgl hW2 f ht k hk true true cs cs'
    have hne:¬AtEnd [stopper] (Gr (Fm f t k .run) cs):=fun he=>by cases he.1
    generalize stepG P true (Gr (Fm f t' k .run) cs') (Par.on W w.tape w.drawn)=y at hst2
    generalize hx:stepG P true (Gr (Fm f t k .run) cs) (Par.on w w.tape w.drawn)=x at hst2
    cases hst2 with
    | go γ hW1 hF he ht1 hk1 hm1=>exact on_ hne hx fun ch q=>by rcases hm1 with rfl|rfl<;>cases q
    | enter γ hf2 hW1 hF he ht2 hc=>exact on_ hne hx fun ch q=>by cases q
    | panics ch v1 es =>
     obtain⟨cs0,rfl,hcs⟩:=hst.form
     exact (lost hx (.pan f t k ch cs0 hcs)).elim
    | far g v1 es r' hlt=>exact absurd hlt (Nat.lt_irrefl _)
    | ended o v1 es=>exact (over hx).elim
   ·obtain⟨fn,c,hfn,_,_⟩:=hT f hf
    cases hst with
    | base =>
     have hst2:=step_ret hW2 hfn ht k true true stopper stopper [] []
     generalize stepG P true (Gr (Fm f t' k .returning) [stopper]) (Par.on W w.tape w.drawn)=y at hst2
     generalize hx:stepG P true (Gr (Fm f t k .returning) [stopper]) (Par.on w w.tape w.drawn)=x at hst2
     cases hst2 with
     | back γ hu hW1 hF he=>exact (lost hx .back).elim
     | far g v1 es r' hlt=>exact absurd hlt (Nat.lt_irrefl _)
     | ended o v1 es=>exact (over hx).elim
    | @push f2 hf2 t2 t2' ht2 k2 hk2 cs cs' hst =>
     have hne:¬AtEnd [stopper] (Gr (Fm f t k .returning) (Fm f2 t2 k2 .run :: cs)):=fun he=>by
      have h1:Fm f2 t2 k2 .run :: cs=[stopper]:=he.2
      injection h1 with h2 _
      have h3:=congrArg Frame.defers h2
      cases h3
     have hst2:=step_ret hW2 hfn ht k true true (Fm f2 t2 k2 .run) (Fm f2 t2' k2 .run) cs cs'
     generalize stepG P true (Gr (Fm f t' k .returning) (Fm f2 t2' k2 .run :: cs')) (Par.on W w.tape w.drawn)=y at hst2
     generalize hx:stepG P true (Gr (Fm f t k .returning) (Fm f2 t2 k2 .run :: cs)) (Par.on w w.tape w.drawn)=x at hst2
     cases hst2 with
     | back γ hu hW1 hF he =>
      obtain⟨t1,t1',k1,e1,_,_,_⟩:=finish_like f2 (ht2.mono hF.le) k2 hk2 .run hu
      exact on_ hne hx fun ch q=>by
       rw[e1] at q
       cases q
     | far g v1 es r' hlt=>exact absurd hlt (Nat.lt_irrefl _)
     | ended o v1 es=>exact (over hx).elim
theorem fin_of_calls (hG:Ok.G=P.globals.size)(hB:Bodies Ok P)(hT:Texts Ok P)(hR:∀u w τ d,R u w→R u (on w τ d)){f:FuncId}{args:Array Value}{w:World}(hg:Good Ok P [stopper] (Gr (Frame.enter P f args .normal) [stopper]) w)(h:∀τ d,Calls P f args (on w τ d) fun e w'=>∃u,e=.returned u∧R u w'):Fin P true [stopper] R (Gr (Frame.enter P f args .normal) [stopper]) w:=by
 refine fin_of hG hB hT hR hg fun τ d=>?_
 obtain⟨e,w',fr,⟨u,rfl,hu⟩,⟨n,hn⟩,_,hl⟩:=h τ d [stopper]
 exact⟨n,_,w',u,chain_of_steps hG hB hT hl.1 n _ _ _ (hg.on τ d) hn,⟨hl.1,rfl⟩,hl,hu⟩
end Go.Proofs.YtjeicikflkjacaaGreatDoor.Par
