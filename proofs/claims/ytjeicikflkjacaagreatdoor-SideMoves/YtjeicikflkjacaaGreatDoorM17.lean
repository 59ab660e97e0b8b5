/- A run in a memory of one's own, and the same run elsewhere: two operands. -/
import Derived.Test.YtjeicikflkjacaaGreatDoorM16
namespace Go.Proofs.YtjeicikflkjacaaGreatDoor.Par
open Go
variable {Ok:Cx} {P:Program} {β:Bij}
theorem sim_movedPointer (t:TypeId){x x' y y':Value}(h:VR Ok β.r x x')(hy:VR Ok β.r y y'):Sim Ok P (VRr Ok) β (movedPointer t x y) (movedPointer t x' y'):=by
 have other:∀ {γ:Bij},β.le γ→Sim Ok P (VRr Ok) γ (Builtin.unsafeAdd_ #[] t #[x,y]) (Builtin.unsafeAdd_ #[] t #[x',y']):=fun {γ} hl=>(sim_unsafeAdd t (h.mono hl) (hy.mono hl)).mono fun δ z z' _ hz=>by
  obtain⟨a,a',rfl,rfl,ha⟩:=hz
  exact ha.vr
 unfold movedPointer
 cases h with
 | ptr o sp hb =>
  dsimp only
  refine Sim.bind (sim_numberAt hb) fun γ q q' hl hq=>?_
  rcases hq with⟨rfl,rfl⟩|⟨a,a',l,rfl,rfl,ha⟩
  ·exact other hl
  ·exact (NoOk.first (NoOk.halt _) _).sim _
 | _=>exact other (Bij.le_refl _)
theorem AdR.same {a a' b b':Addr}(ha:AdR β a a')(hb:AdR β b b'):(a.block==b.block)=(a'.block==b'.block):=by
 by_cases e:a.block=b.block
 ·have e':a'.block=b'.block:=β.fn (e ▸ ha.b) hb.b
  rw[e,e',beq_self_eq_true,beq_self_eq_true]
 ·have e':¬a'.block=b'.block:=fun q=>e (β.inj (q ▸ ha.b) hb.b)
  rw[beq_eq_false_iff_ne.2 e,beq_eq_false_iff_ne.2 e']
theorem Sim.known {α:Type}{R:Bij→α→α→Prop}{s s':Sem α}(h:∀γ,β.le γ→(∀a b,γ.r a b→(a<Ok.G↔b<Ok.G))→Sim Ok P R γ s s'):Sim Ok P R β s s':=fun E γ hl v W hW=>h γ hl hW.gl E γ (Bij.le_refl _) v W hW
theorem sim_twoPlaces (hG:Ok.G=P.globals.size){a a' b b':Addr}(ha:AdR β a a')(hb:AdR β b b'):Sim Ok P (fun _ q q'=>q=q') β (Op.twoPlaces a b) (Op.twoPlaces a' b'):=by
 refine Sim.known fun γ hl hg=>?_
 have ha:=ha.later hl
 have hb:=hb.later hl
 unfold Op.twoPlaces
 refine Sim.bind Sim.program fun γ1 p p' hl1 hp=>?_
 obtain⟨rfl,rfl⟩:=hp
 have e1:(a.block != b.block)=(a'.block != b'.block):=by unfold bne;rw[ha.same hb]
 have e2:decide (a.block ≥ p'.globals.size)=decide (a'.block ≥ p'.globals.size):=by
  have:=hg _ _ ha.b
  rw[hG] at this
  rw[decide_eq_decide]
  omega
 rw[e1,e2]
 try dsimp only
 split
 ·exact (NoOk.first (NoOk.halt _) _).sim _
 ·refine Sim.bind (sim_byteOf (ha.later hl1)) fun γ2 m m' hl2 hm=>?_
  subst hm
  refine Sim.bind (sim_byteOf ((hb.later hl1).later hl2)) fun γ3 n n' hl3 hn=>?_
  subst hn
  exact Sim.pure fun _ _=>rfl
theorem sim_addrSub (hG:Ok.G=P.globals.size)(k:IntKind){a a' b b':Addr}(ha:AdR β a a')(hb:AdR β b b'):Sim Ok P (VRr Ok) β (Op.addrSub k a b) (Op.addrSub k a' b'):=by
 unfold Op.addrSub
 refine Sim.bind (sim_twoPlaces hG ha hb) fun γ q q' hl hq=>?_
 subst hq
 exact Sim.pure fun _ _=>.int _ _
theorem sim_addrCmp (hG:Ok.G=P.globals.size)(op:BinOp){a a' b b':Addr}(ha:AdR β a a')(hb:AdR β b b'):Sim Ok P (VRr Ok) β (Op.addrCmp op a b) (Op.addrCmp op a' b'):=by
 unfold Op.addrCmp
 refine Sim.bind (sim_twoPlaces hG ha hb) fun γ q q' hl hq=>?_
 subst hq
 cases op<;>first|exact Sim.pure fun _ _=>.bool _|exact Sim.unsupported _ _
theorem sim_addrMod (k:IntKind)(n:Int){a a':Addr}(ha:AdR β a a'):Sim Ok P (VRr Ok) β (Op.addrMod k a n) (Op.addrMod k a' n):=by
 unfold Op.addrMod
 refine Sim.bind (Sim.shape ha.b) fun γ s s' hl hs=>?_
 have hs2:(s=none∧s'=none)∨∃e n n',s=some (e,n)∧s'=some (e,n'):=by
  rcases hs with rfl|⟨e,n,n',rfl,rfl,_⟩
  ·cases s with
   | none=>exact .inl ⟨rfl,rfl⟩
   | some q=>exact .inr ⟨q.1,q.2,q.2,rfl,rfl⟩
  ·exact .inr ⟨e,n,n',rfl,rfl⟩
 rcases hs2 with⟨rfl,rfl⟩|⟨e,c,c',rfl,rfl⟩
 ·exact Sim.unsupported _ _
 ·dsimp only
  refine Sim.bind (sim_typeInfo e) fun γ1 i i' hl1 hi=>?_
  obtain⟨rfl,_⟩:=hi
  try dsimp only
  split
  ·exact (NoOk.first (NoOk.halt _) _).sim _
  ·refine Sim.bind (sim_byteOf ((ha.later hl).later hl1)) fun γ2 m m' hl2 hm=>?_
   subst hm
   exact Sim.pure fun _ _=>.int _ _
inductive Nil:Value→Prop
 | p:Nil (.pointer none)
 | s:Nil (.slice none 0 0)
 | m:Nil (.map none)
 | f:Nil .nilFunc
 | i:Nil .nilIface
theorem sim_equalPlain (hG:Ok.G=P.globals.size)(t:TypeId)(ht:P.underlying t=some .string∨P.underlying t=some .bool∨∃k,P.underlying t=some (.int k)){x x' y y':Value}(h:VR Ok β.r x x')(hy:VR Ok β.r y y'):Sim Ok P (fun _ b b'=>b=b') β (Op.equal t x y) (Op.equal t x' y'):=by
 unfold Op.equal Op.maxDepth Op.equalIn
 refine Sim.bind (sim_underlying t) fun γ d d' hl hd=>?_
 obtain⟨rfl,hd⟩:=hd
 rcases ht with ht|ht|⟨k,ht⟩
 ·rw[ht] at hd
  obtain rfl:=Option.some.inj hd
  cases h<;>first|exact Sim.stuck _ _|(cases hy<;>first|exact Sim.pure fun _ _=>rfl|exact Sim.stuck _ _)
 ·rw[ht] at hd
  obtain rfl:=Option.some.inj hd
  cases h<;>first|exact Sim.stuck _ _|(cases hy<;>first|exact Sim.pure fun _ _=>rfl|exact Sim.stuck _ _)
 ·rw[ht] at hd
  obtain rfl:=Option.some.inj hd
  have hx1:=h.mono hl
  have hy1:=hy.mono hl
  clear h hy
  cases hx1 with
  | int k1 n =>
   cases hy1 with
   | int k2 m =>
    dsimp only
    split
    ·exact Sim.pure fun _ _=>rfl
    ·exact Sim.stuck _ _
   | pnil =>
    cases n with
    | ofNat m=>cases m<;>exact Sim.unsupported _ _
    | negSucc m=>exact Sim.unsupported _ _
   | ptr o sp hb =>
    cases n with
    | ofNat m=>cases m<;>first|exact Sim.pure fun _ _=>rfl|exact Sim.unsupported _ _
    | negSucc m=>exact Sim.unsupported _ _
   | _ =>
    cases n with
    | ofNat m=>cases m<;>exact Sim.stuck _ _
    | negSucc m=>exact Sim.stuck _ _
  | ptr o sp hb =>
   cases hy1 with
   | int k2 n =>
    cases n with
    | ofNat m=>cases m<;>first|exact Sim.pure fun _ _=>rfl|exact Sim.unsupported _ _
    | negSucc m=>exact Sim.unsupported _ _
   | ptr o2 sp2 hb2 =>
    try dsimp only
    refine Sim.bind (sim_behind (a:=⟨_,o,sp⟩) (a':=⟨_,o,sp⟩) ⟨hb,rfl,rfl⟩) fun γ1 q q' hl1 hq=>?_
    refine Sim.bind (sim_behind (a:=⟨_,o2,sp2⟩) (a':=⟨_,o2,sp2⟩) ⟨hl1 _ _ hb2,rfl,rfl⟩) fun γ2 z z' hl2 hz=>?_
    refine Sim.known fun γ3 hl3 hg=>?_
    have ha:=(hq.1.later hl2).later hl3
    have hb:=hz.1.later hl3
    try dsimp only
    refine Sim.bind Sim.program fun γ4 p p' hl4 hp=>?_
    obtain⟨rfl,rfl⟩:=hp
    have e1:=ha.same hb
    have e2:decide (q.1.block<p'.globals.size)=decide (q'.1.block<p'.globals.size):=by
     have:=hg _ _ ha.b
     rw[hG] at this
     rw[decide_eq_decide]
     exact this
    rw[e1,e2]
    have e3:(q.1==z.1)=(q'.1==z'.1):=by
     have h1:=ha.o
     have h2:=ha.s
     have h3:=hb.o
     have h4:=hb.s
     have hiff:q.1.block=z.1.block↔q'.1.block=z'.1.block:=⟨fun e=>γ3.fn (e ▸ ha.b) hb.b,fun e=>γ3.inj (e ▸ ha.b) hb.b⟩
     rw[Bool.eq_iff_iff,beq_iff_eq,beq_iff_eq]
     constructor
     ·intro e
      have:q'.1.block=z'.1.block:=hiff.1 (by rw[e])
      cases hq':q'.1;cases hz':z'.1
      simp_all
     ·intro e
      have:q.1.block=z.1.block:=hiff.2 (by rw[e])
      cases hq':q.1;cases hz':z.1
      simp_all
    split
    ·refine Sim.bind (sim_byteOf (ha.later hl4)) fun γ5 m m' hl5 hm=>?_
     subst hm
     refine Sim.bind (sim_byteOf ((hb.later hl4).later hl5)) fun γ6 k k' hl6 hk=>?_
     subst hk
     exact Sim.pure fun _ _=>rfl
    ·refine Sim.bind (sim_typeInfo t) fun γ5 i i' hl5 hi=>?_
     obtain⟨rfl,_⟩:=hi
     rw[e3]
     try dsimp only
     split
     ·split
      ·exact Sim.pure fun _ _=>rfl
      ·exact Sim.unsupported _ _
     ·exact Sim.unsupported _ _
   | _=>exact Sim.unsupported _ _
  | pnil=>cases hy1<;>first|exact Sim.unsupported _ _|exact Sim.stuck _ _
  | _=>cases hy1<;>first|exact Sim.unsupported _ _|exact Sim.stuck _ _
end Go.Proofs.YtjeicikflkjacaaGreatDoor.Par

/- A run in a memory of one's own, and the same run elsewhere: any two operands; maps. -/
namespace Go.Proofs.YtjeicikflkjacaaGreatDoor.Par
open Go
variable {Ok:Cx} {P:Program} {β:Bij}
theorem sim_equalNil (t:TypeId){x x' y:Value}(h:VR Ok β.r x x')(hy:Nil y):Sim Ok P (fun _ b b'=>b=b') β (Op.equal t x y) (Op.equal t x' y):=by
 unfold Op.equal Op.maxDepth Op.equalIn
 refine Sim.bind (sim_underlying t) fun γ d d' hl hd=>?_
 obtain⟨rfl,hd⟩:=hd
 cases hy with
 | p=>cases d<;>cases h<;>first|exact Sim.stuck _ _|exact Sim.pure fun _ _=>rfl|exact Sim.unsupported _ _
 | s=>cases d<;>cases h<;>first|exact Sim.stuck _ _|exact Sim.pure fun _ _=>rfl|exact Sim.unsupported _ _
 | m=>cases d<;>cases h<;>first|exact Sim.stuck _ _|exact Sim.pure fun _ _=>rfl|exact Sim.unsupported _ _
 | f=>cases d<;>cases h<;>first|exact Sim.stuck _ _|exact Sim.pure fun _ _=>rfl|exact Sim.unsupported _ _
 | i=>cases d<;>cases h<;>first|exact Sim.stuck _ _|exact Sim.pure fun _ _=>rfl|exact Sim.unsupported _ _
def EqOk (P:Program)(op:BinOp)(t:TypeId)(y y':Value):Prop:=(op≠.eql∧op≠.neq)∨(P.underlying t=some .string∨P.underlying t=some .bool∨∃k,P.underlying t=some (.int k))∨(y=y'∧Nil y)
theorem sim_equalAny (hG:Ok.G=P.globals.size)(t:TypeId){x x' y y':Value}(h:VR Ok β.r x x')(hy:VR Ok β.r y y')(he:(P.underlying t=some .string∨P.underlying t=some .bool∨∃k,P.underlying t=some (.int k))∨(y=y'∧Nil y)):Sim Ok P (fun _ b b'=>b=b') β (Op.equal t x y) (Op.equal t x' y'):=by
 rcases he with he|⟨rfl,he⟩
 ·exact sim_equalPlain hG t he h hy
 ·exact sim_equalNil t h he
theorem sim_binEq (hG:Ok.G=P.globals.size)(op:BinOp)(hop:op=.eql∨op=.neq)(t:TypeId){x x' y y':Value}(h:VR Ok β.r x x')(hy:VR Ok β.r y y')(he:(P.underlying t=some .string∨P.underlying t=some .bool∨∃k,P.underlying t=some (.int k))∨(y=y'∧Nil y)):Sim Ok P (VRr Ok) β (binOp op t x y) (binOp op t x' y'):=by
 have e1:Sim Ok P (VRr Ok) β (do pure (.bool (← Op.equal t x y))) (do pure (.bool (← Op.equal t x' y'))):=Sim.bind (sim_equalAny hG t h hy he) fun γ b b' hl hb=>by subst hb;exact Sim.pure fun _ _=>.bool _
 have e2:Sim Ok P (VRr Ok) β (do pure (.bool (!(← Op.equal t x y)))) (do pure (.bool (!(← Op.equal t x' y')))):=Sim.bind (sim_equalAny hG t h hy he) fun γ b b' hl hb=>by subst hb;exact Sim.pure fun _ _=>.bool _
 cases h with
 | int k n =>
  cases hy with
  | int k' m=>exact (flat_intBin op t k k' n m).sim
  | _=>rcases hop with rfl|rfl;exact e1;exact e2
 | string s =>
  cases hy with
  | string s'=>exact (flat_strBin op t s s').sim
  | _=>rcases hop with rfl|rfl;exact e1;exact e2
 | _=>cases hy<;>(rcases hop with rfl|rfl;exact e1;exact e2)
set_option maxHeartbeats 8000000 in
theorem sim_binOther (hG:Ok.G=P.globals.size)(op:BinOp)(h1:op≠.eql)(h2:op≠.neq)(t:TypeId){x x' y y':Value}(h:VR Ok β.r x x')(hy:VR Ok β.r y y'):Sim Ok P (VRr Ok) β (binOp op t x y) (binOp op t x' y'):=by
 have hx0:=h
 have hy0:=hy
 cases h with
 | int k n =>
  cases hy with
  | int k' m=>exact (flat_intBin op t k k' n m).sim
  | ptr o sp hb =>
   cases op with
   | eql=>exact absurd rfl h1
   | neq=>exact absurd rfl h2
   | add=>exact sim_movedNumber t hy0 hx0
   | and=>exact Sim.bind (sim_behind (a:=⟨_,o,sp⟩) (a':=⟨_,o,sp⟩) ⟨hb,rfl,rfl⟩) fun γ q q' hl hq=>sim_addrMod k (n+1) hq.1
   | _=>exact Sim.unsupported _ _
  | pnil =>
   cases op with
   | eql=>exact absurd rfl h1
   | neq=>exact absurd rfl h2
   | add=>exact sim_movedNumber t hy0 hx0
   | _=>exact Sim.unsupported _ _
  | _=>cases op<;>first|exact absurd rfl h1|exact absurd rfl h2|exact Sim.stuck _ _
 | string s =>
  cases hy with
  | string s'=>exact (flat_strBin op t s s').sim
  | _=>cases op<;>first|exact absurd rfl h1|exact absurd rfl h2|exact Sim.stuck _ _|exact Sim.unsupported _ _
 | pnil =>
  cases hy with
  | int k n =>
   cases op with
   | eql=>exact absurd rfl h1
   | neq=>exact absurd rfl h2
   | add =>
    refine Sim.bind (sim_underlying t) fun γ d d' hl hd=>?_
    obtain⟨rfl,hd⟩:=hd
    cases d<;>first|exact sim_movedPointer t (hx0.mono hl) (hy0.mono hl)|exact sim_movedNumber t (hx0.mono hl) (hy0.mono hl)
   | sub=>exact sim_movedNumber t hx0 (.int k (-n))
   | _=>exact Sim.unsupported _ _
  | _=>cases op<;>first|exact absurd rfl h1|exact absurd rfl h2|exact Sim.stuck _ _|exact Sim.unsupported _ _
 | ptr o sp hb =>
  have ha:AdR β ⟨_,o,sp⟩ ⟨_,o,sp⟩:=⟨hb,rfl,rfl⟩
  cases hy with
  | int k n =>
   cases op with
   | eql=>exact absurd rfl h1
   | neq=>exact absurd rfl h2
   | add =>
    refine Sim.bind (sim_underlying t) fun γ d d' hl hd=>?_
    obtain⟨rfl,hd⟩:=hd
    cases d<;>first|exact sim_movedPointer t (hx0.mono hl) (hy0.mono hl)|exact sim_movedNumber t (hx0.mono hl) (hy0.mono hl)
   | sub=>exact sim_movedNumber t hx0 (.int k (-n))
   | rem=>exact Sim.bind (sim_behind ha) fun γ q q' hl hq=>sim_addrMod k n hq.1
   | and=>exact Sim.bind (sim_behind ha) fun γ q q' hl hq=>sim_addrMod k (n+1) hq.1
   | _=>exact Sim.unsupported _ _
  | ptr o2 sp2 hb2 =>
   have ha2:AdR β ⟨_,o2,sp2⟩ ⟨_,o2,sp2⟩:=⟨hb2,rfl,rfl⟩
   have cmp:∀op',Sim Ok P (VRr Ok) β (do Op.addrCmp op' (← behindNumber ⟨_,o,sp⟩).1 (← behindNumber ⟨_,o2,sp2⟩).1) (do Op.addrCmp op' (← behindNumber ⟨_,o,sp⟩).1 (← behindNumber ⟨_,o2,sp2⟩).1):=fun op' =>
    Sim.bind (sim_behind ha) fun γ q q' hl hq=>Sim.bind (sim_behind (ha2.later hl)) fun γ1 z z' hl1 hz=>sim_addrCmp hG op' (hq.1.later hl1) hz.1
   cases op with
   | eql=>exact absurd rfl h1
   | neq=>exact absurd rfl h2
   | sub=>exact Sim.bind (sim_behind ha) fun γ q q' hl hq=>Sim.bind (sim_behind (ha2.later hl)) fun γ1 z z' hl1 hz=>sim_addrSub hG .u64 (hq.1.later hl1) hz.1
   | lss=>exact cmp .lss
   | leq=>exact cmp .leq
   | gtr=>exact cmp .gtr
   | geq=>exact cmp .geq
   | _=>exact Sim.unsupported _ _
  | _=>cases op<;>first|exact absurd rfl h1|exact absurd rfl h2|exact Sim.stuck _ _|exact Sim.unsupported _ _
 | _=>cases hy<;>cases op<;>first|exact absurd rfl h1|exact absurd rfl h2|exact Sim.stuck _ _|exact Sim.unsupported _ _
theorem sim_binOp (hG:Ok.G=P.globals.size)(op:BinOp)(t:TypeId){x x' y y':Value}(h:VR Ok β.r x x')(hy:VR Ok β.r y y')(he:EqOk P op t y y'):Sim Ok P (VRr Ok) β (binOp op t x y) (binOp op t x' y'):=by
 by_cases h1:op=.eql∨op=.neq
 ·rcases he with⟨q1,q2⟩|he
  ·rcases h1 with h1|h1
   ·exact absurd h1 q1
   ·exact absurd h1 q2
  ·exact sim_binEq hG op h1 t h hy he
 ·exact sim_binOther hG op (fun e=>h1 (Or.inl e)) (fun e=>h1 (Or.inr e)) t h hy
end Go.Proofs.YtjeicikflkjacaaGreatDoor.Par

/- A run in a memory of one's own, and the same run elsewhere: maps with texts as keys; structs that are put together. -/
namespace Go.Proofs.YtjeicikflkjacaaGreatDoor.Par
open Go
variable {Ok:Cx} {P:Program} {β:Bij}
inductive LE (Ok:Cx) (β:Nat→Nat→Prop):List MapEntry→List MapEntry→Prop
 | nil:LE Ok β [] []
 | cons {e e':MapEntry} {l l':List MapEntry} (he:ER1 Ok β e e') (hl:LE Ok β l l'):LE Ok β (e :: l) (e' :: l')
theorem LE.of {γ:Nat→Nat→Prop}:∀ {l l':List MapEntry},l.length=l'.length→(∀(i:Nat) (u u':MapEntry),l[i]?=some u→l'[i]?=some u'→ER1 Ok γ u u')→LE Ok γ l l'
 | [],[],_,_=>.nil
 | [],_ :: _,h,_=>by simp at h
 | _ :: _,[],h,_=>by simp at h
 | u :: l,u' :: l',h,k=>.cons (k 0 u u' rfl rfl) (LE.of (by simpa using h) fun i z z' h1 h2=>k (i+1) z z' (by simpa using h1) (by simpa using h2))
theorem ER1.mono {β γ:Nat→Nat→Prop}(h:∀a b,β a b→γ a b){e e':MapEntry}(he:ER1 Ok β e e'):ER1 Ok γ e e':=⟨he.key.mono h,he.val.mono h,he.born⟩
theorem LE.mono {β γ:Nat→Nat→Prop}(h:∀a b,β a b→γ a b){l l':List MapEntry}(hl:LE Ok β l l'):LE Ok γ l l':=by
 induction hl with
 | nil=>exact .nil
 | cons he _ ih=>exact .cons (he.mono h) ih
def FR (Ok:Cx)(γ:Bij)(x x':Option (Nat × Value)):Prop:=(x=none∧x'=none)∨∃i u u',x=some (i,u)∧x'=some (i,u')∧VR Ok γ.r u u'
theorem sameNow_eq {γ:Nat→Nat→Prop}{k k' x x':Value}(hk:VR Ok γ k k')(hx:VR Ok γ x x'):Instr.sameNow .string k x=Instr.sameNow .string k' x':=by
 cases hk<;>first|rfl|(cases hx<;>rfl)
theorem findNow_rel {k k':Value}(hk:VR Ok β.r k k'):∀ {l l':List MapEntry} (i:Nat),LE Ok β.r l l'→(Instr.findNow .string k l i=none∧Instr.findNow .string k' l' i=none)∨∃r r',Instr.findNow .string k l i=some r∧Instr.findNow .string k' l' i=some r'∧FR Ok β r r'
 | [],[],i,.nil=>Or.inr ⟨none,none,rfl,rfl,Or.inl ⟨rfl,rfl⟩⟩
 | e :: l,e' :: l',i,.cons he hl=>by
  have hs:=sameNow_eq hk he.key
  unfold Instr.findNow
  rw[←hs]
  cases Instr.sameNow .string k e.key with
  | none=>exact Or.inl ⟨rfl,rfl⟩
  | some b =>
   cases b with
   | true=>exact Or.inr ⟨_,_,rfl,rfl,Or.inr ⟨i,_,_,rfl,rfl,he.val⟩⟩
   | false=>exact findNow_rel hk (i+1) hl
theorem sim_findAsking (hG:Ok.G=P.globals.size)(t:TypeId)(ht:P.underlying t=some .string){k k':Value}:∀ {l l':List MapEntry} (i:Nat) {β:Bij},VR Ok β.r k k'→LE Ok β.r l l'→Sim Ok P (FR Ok) β (Instr.findAsking t k l i) (Instr.findAsking t k' l' i)
 | [],[],i,_,_,.nil=>Sim.pure fun _ _=>Or.inl ⟨rfl,rfl⟩
 | e :: l,e' :: l',i,β,hk,.cons he hl=>by
  unfold Instr.findAsking
  refine Sim.bind (sim_equalPlain hG t (Or.inl ht) hk he.key) fun γ b b' hle hb=>?_
  subst hb
  cases b with
  | true=>exact Sim.pure fun δ hd=>Or.inr ⟨i,_,_,rfl,rfl,(he.val.mono hle).mono hd⟩
  | false=>exact sim_findAsking hG t ht (i+1) (hk.mono hle) (hl.mono hle)
theorem sim_findKey (hG:Ok.G=P.globals.size)(t:TypeId)(ht:P.underlying t=some .string){k k':Value}(hk:VR Ok β.r k k'){l l':List MapEntry}(hl:LE Ok β.r l l'):Sim Ok P (FR Ok) β (Instr.findKey t k l) (Instr.findKey t k' l'):=by
 unfold Instr.findKey
 refine Sim.bind (sim_underlying t) fun γ d d' hle hd=>?_
 obtain⟨rfl,hd⟩:=hd
 rw[ht] at hd
 obtain rfl:=Option.some.inj hd
 rcases findNow_rel hk 0 hl with⟨h1,h2⟩|⟨r,r',h1,h2,hr⟩
 ·rw[h1,h2]
  exact sim_findAsking hG t ht 0 (hk.mono hle) (hl.mono hle)
 ·rw[h1,h2]
  refine Sim.pure fun δ hd=>?_
  rcases hr with⟨rfl,rfl⟩|⟨i,u,u',rfl,rfl,hu⟩
  ·exact Or.inl ⟨rfl,rfl⟩
  ·exact Or.inr ⟨i,u,u',rfl,rfl,(hu.mono hle).mono hd⟩
theorem sim_checkKey (e:Bool)(t:TypeId)(ht:P.underlying t=some .string){k k':Value}(hk:VR Ok β.r k k'):Sim Ok P (fun _ _ _=>True) β (Instr.checkKey e 10000 t k) (Instr.checkKey e 10000 t k'):=by
 unfold Instr.checkKey
 refine Sim.bind (sim_underlying t) fun γ d d' hle hd=>?_
 obtain⟨rfl,hd⟩:=hd
 rw[ht] at hd
 obtain rfl:=Option.some.inj hd
 cases hk<;>exact Sim.pure fun _ _=>trivial
theorem sim_lookup (hG:Ok.G=P.globals.size)(t key elem:TypeId)(ht:P.underlying t=some (.map key elem))(hkey:P.underlying key=some .string)(hz:ZeroAt Ok P elem)(ok:Bool){x x' y y':Value}(h:VR Ok β.r x x')(hy:VR Ok β.r y y'):Sim Ok P (VRr Ok) β (Instr.lookup t x y ok) (Instr.lookup t x' y' ok):=by
 unfold Instr.lookup
 refine Sim.bind (sim_underlying t) fun γ d d' hl hd=>?_
 obtain⟨rfl,hd⟩:=hd
 rw[ht] at hd
 obtain rfl:=Option.some.inj hd
 dsimp only
 have rest:∀ {γ1:Bij} {es es':Array MapEntry},γ.le γ1→es.size=es'.size→LE Ok γ1.r es.toList es'.toList→Sim Ok P (VRr Ok) γ1 (do
   Instr.checkKey es.isEmpty 10000 key y
   let (v,ok1) ← match ← Instr.findKey key y es.toList with
    | some (_,v)=>pure (v,true)
    | none=>pure (← zeroValue elem,false)
   pure (if ok then .tuple #[v,.bool ok1] else v)) (do
   Instr.checkKey es'.isEmpty 10000 key y'
   let (v,ok1) ← match ← Instr.findKey key y' es'.toList with
    | some (_,v)=>pure (v,true)
    | none=>pure (← zeroValue elem,false)
   pure (if ok then .tuple #[v,.bool ok1] else v)):=by
  intro γ1 es es' hl1 hsz hle
  have hem:es.isEmpty=es'.isEmpty:=by
   unfold Array.isEmpty
   rw[hsz]
  rw[←hem]
  have hy1:=(hy.mono hl).mono hl1
  have fin:∀ {γ2:Bij} {v v':Value} (b:Bool),VR Ok γ2.r v v'→Sim Ok P (VRr Ok) γ2 (pure (if ok then .tuple #[v,.bool b] else v)) (pure (if ok then .tuple #[v',.bool b] else v')):=fun {γ2 v v'} b hv=>Sim.pure fun δ hd=>by
   cases ok
   ·exact hv.mono hd
   ·have:=((AR.empty (Ok:=Ok) δ.r).push (hv.mono hd)).push (.bool b)
    exact .tuple this.1 this.2
  refine Sim.bind (sim_checkKey _ key hkey hy1) fun γ2 _ _ hl2 _=>?_
  refine Sim.bind (sim_findKey hG key hkey (hy1.mono hl2) (hle.mono hl2)) fun γ3 r r' hl3 hr=>?_
  rcases hr with⟨rfl,rfl⟩|⟨i,u,u',rfl,rfl,hu⟩
  ·refine Sim.bind (sim_zero elem hz) fun γ4 u u' hl4 hu=>?_
   exact fin false hu
  ·exact fin true hu
 have hx1:=h.mono hl
 cases hx1 with
 | mnil=>exact rest (Bij.le_refl _) rfl .nil
 | map hb =>
  dsimp only
  refine Sim.bind (Sim.getObj hb) fun γ1 o o' hl1 ho=>?_
  obtain⟨ho,hnc⟩:=ho
  cases ho with
  | map clock hs he=>exact rest hl1 hs (LE.of (by simpa using hs) fun i u u' h1 h2=>he i u u' (by simpa using h1) (by simpa using h2))
  | cells e f f' hx hf=>exact absurd rfl (hnc _ _ _)
  | pre e f f' hs hx hf=>exact absurd rfl (hnc _ _ _)
  | number o sp lost hb=>exact (NoOk.halt _).sim _
 | _=>exact (NoOk.first (NoOk.halt _) _).sim _
theorem NoOk.underlying {δ:Type}(t:TypeId){f:TypeDesc→Sem δ}(h:∀d,P.underlying t=some d→NoOk P (f d)):NoOk P (Go.underlying t >>= f):=fun v es=>by
 show ∃ q v1 es1, ((match P.underlying t with | some d => Pure.pure d | none => Go.stuck "no such type" : Sem TypeDesc).bind f).runT P v es = (.halt q v1, es1) ∧ Mild q
 cases hd:P.underlying t with
 | none=>exact⟨_,_,_,rfl,by first|exact .panic _|exact .stuck _|exact .unsupported _ (fun g e=>by cases e)⟩
 | some d=>exact h d hd v es
theorem noOk_equal {γ:Nat→Nat→Prop}(t:TypeId)(ht:P.underlying t=some .string){k k':Value}(hk:VR Ok γ k k')(hn:∀s,k≠.string s)(x:Value):NoOk P (Op.equal t k x):=by
 unfold Op.equal Op.maxDepth Op.equalIn
 refine NoOk.underlying t fun d hd=>?_
 rw[ht] at hd
 obtain rfl:=Option.some.inj hd
 cases hk with
 | string s=>exact absurd rfl (hn s)
 | _=>exact NoOk.halt _
theorem sim_findNot (t:TypeId)(ht:P.underlying t=some .string){k k':Value}(hk:VR Ok β.r k k')(hn:∀s,k≠.string s){l l':List MapEntry}(hl:LE Ok β.r l l'):Sim Ok P (fun _ r r'=>r=none∧r'=none) β (Instr.findKey t k l) (Instr.findKey t k' l'):=by
 unfold Instr.findKey
 refine Sim.bind (sim_underlying t) fun γ d d' hle hd=>?_
 obtain⟨rfl,hd⟩:=hd
 rw[ht] at hd
 obtain rfl:=Option.some.inj hd
 cases hl with
 | nil=>exact Sim.pure fun _ _=>⟨rfl,rfl⟩
 | @cons e e' l l' he hl =>
  have hs:Instr.sameNow .string k e.key=none:=by
   cases hk with
   | string s=>exact absurd rfl (hn s)
   | _=>rfl
  have hf:Instr.findNow .string k (e :: l) 0=none:=by
   unfold Instr.findNow
   rw[hs]
  rw[hf]
  refine NoOk.sim ?_ _
  unfold Instr.findAsking
  exact NoOk.first (noOk_equal t ht hk hn e.key) _
theorem sim_keyStays {k k' x x':Value}(hk:VR Ok β.r k k')(hx:VR Ok β.r x x')(hs:∃s,x=.string s):Sim Ok P (VRr Ok) β (Instr.keyThatStays k x) (Instr.keyThatStays k' x'):=by
 obtain⟨s,rfl⟩:=hs
 have hx0:=hx
 cases hx with
 | string =>
  have e:Instr.sameBits 10000 k (.string s)=Instr.sameBits 10000 k' (.string s):=by cases hk<;>rfl
  unfold Instr.keyThatStays
  rw[e]
  split
  ·exact Sim.pure fun δ hd=>hx0.mono hd
  ·refine Sim.bind (Sim.choose _) fun γ n n' hl hn=>?_
   subst hn
   refine Sim.pure fun δ hd=>?_
   split
   ·exact .string _
   ·exact (hk.mono hl).mono hd
theorem sim_mapUpdate (hG:Ok.G=P.globals.size)(t key elem:TypeId)(ht:P.underlying t=some (.map key elem))(hkey:P.underlying key=some .string){x x' y y' z z':Value}(h:VR Ok β.r x x')(hy:VR Ok β.r y y')(hz:VR Ok β.r z z'):Sim Ok P (fun _ _ _=>True) β (Instr.mapUpdate t x y z) (Instr.mapUpdate t x' y' z'):=by
 unfold Instr.mapUpdate
 refine Sim.bind (sim_underlying t) fun γ d d' hl hd=>?_
 obtain⟨rfl,hd⟩:=hd
 rw[ht] at hd
 obtain rfl:=Option.some.inj hd
 dsimp only
 have hy0:=hy.mono hl
 have hz0:=hz.mono hl
 cases h.mono hl with
 | mnil=>exact Sim.panic _ _
 | map hb =>
  dsimp only
  refine Sim.bind (Sim.getObj hb) fun γ1 o o' hl1 ho=>?_
  obtain⟨ho,hnc⟩:=ho
  cases ho with
  | @map es es' clock hs he =>
   dsimp only
   have hle:LE Ok γ1.r es.toList es'.toList:=LE.of (by simpa using hs) fun i u u' h1 h2=>he i u u' (by simpa using h1) (by simpa using h2)
   refine Sim.bind (sim_checkKey false key hkey (hy0.mono hl1)) fun γ2 _ _ hl2 _=>?_
   have hy2:=(hy0.mono hl1).mono hl2
   have push:∀ {γ3:Bij},γ2.le γ3→Sim Ok P (fun _ _ _=>True) γ3 (setObj _ (.map (es.push { key:=y,val:=z,born:=clock }) (clock+1))) (setObj _ (.map (es'.push { key:=y',val:=z',born:=clock }) (clock+1))):=fun {γ3} hl3=>by
    refine Sim.setMap (hl3 _ _ (hl2 _ _ (hl1 _ _ hb))) (by simp[hs]) fun j e e' h1 h2=>?_
    rw[Array.getElem?_push] at h1 h2
    rw[←hs] at h2
    split at h1
    ·rename_i q
     rw[if_pos q] at h2
     obtain rfl:=Option.some.inj h1
     obtain rfl:=Option.some.inj h2
     exact⟨hy2.mono hl3,((hz0.mono hl1).mono hl2).mono hl3,rfl⟩
    ·rename_i q
     rw[if_neg q] at h2
     exact ((he j e e' h1 h2).mono hl2).mono hl3
   by_cases hstr:∃s,y=.string s
   ·refine Sim.bind (sim_findKey hG key hkey hy2 (hle.mono hl2)) fun γ3 r r' hl3 hr=>?_
    rcases hr with⟨rfl,rfl⟩|⟨i,u,u',rfl,rfl,hu⟩
    ·exact push hl3
    ·dsimp only
     have hold:VR Ok γ3.r (((es[i]?).map (·.key)).getD y) (((es'[i]?).map (·.key)).getD y'):=by
      cases hi:es[i]? with
      | none =>
       have:es'[i]?=none:=by
        rw[Array.getElem?_eq_none_iff] at hi ⊢
        rw[←hs]
        exact hi
       rw[this]
       exact hy2.mono hl3
      | some e =>
       obtain⟨hlt,_⟩:=Array.getElem?_eq_some_iff.1 hi
       have hlt':i<es'.size:=by rw[←hs];exact hlt
       rw[Array.getElem?_eq_getElem hlt']
       exact (((he i e _ hi (Array.getElem?_eq_getElem hlt')).mono hl2).mono hl3).key
     refine Sim.bind (sim_keyStays hold (hy2.mono hl3) hstr) fun γ4 kk kk' hl4 hkk=>?_
     refine Sim.setMap (hl4 _ _ (hl3 _ _ (hl2 _ _ (hl1 _ _ hb)))) (by simp[hs]) fun j e e' h1 h2=>?_
     rw[Array.getElem?_modify] at h1 h2
     by_cases q:i=j
     ·rw[if_pos q] at h1 h2
      obtain⟨e0,h3,rfl⟩:=Option.map_eq_some_iff.1 h1
      obtain⟨e0',h4,rfl⟩:=Option.map_eq_some_iff.1 h2
      exact⟨hkk,(((hz0.mono hl1).mono hl2).mono hl3).mono hl4,(he j e0 e0' h3 h4).born⟩
     ·rw[if_neg q] at h1 h2
      exact (((he j e e' h1 h2).mono hl2).mono hl3).mono hl4
   ·refine Sim.bind (sim_findNot key hkey hy2 (fun s e=>hstr ⟨s,e⟩) (hle.mono hl2)) fun γ3 r r' hl3 hr=>?_
    obtain⟨rfl,rfl⟩:=hr
    exact push hl3
  | cells e f f' hx hf=>exact absurd rfl (hnc _ _ _)
  | pre e f f' hs hx hf=>exact absurd rfl (hnc _ _ _)
  | number o sp lost hb=>exact Sim.stuck _ _
 | _=>exact Sim.stuck _ _
end Go.Proofs.YtjeicikflkjacaaGreatDoor.Par
