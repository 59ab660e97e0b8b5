/- A run in a memory of one's own, and the same run elsewhere: maps with texts as keys, lengths, copies. -/
import Derived.Test.YtjeicikflkjacaaGreatDoorM15
namespace Go.Proofs.YtjeicikflkjacaaGreatDoor.Par
open Go
variable {Ok:Cx} {P:Program} {β:Bij}
def Flat (Ok:Cx)(P:Program)(s:Sem Value):Prop:=(∃a,(∀γ,VR Ok γ a a)∧∀v es,s.runT P v es=(.ok a v,es))∨NoOk P s
theorem Flat.sim {s:Sem Value}(h:Flat Ok P s):Sim Ok P (VRr Ok) β s s:=by
 rcases h with⟨a,ha,hr⟩|h
 ·refine Sim.of (fun E γ hl v W hW es q v1 es1 hs=>yields hs (hr v es)) ?_
  intro E γ hl v W hW es es' he b v1 es1 hs
  rw[hr] at hs
  injection hs with h1 h2
  injection h1 with h3 h4
  subst h3
  subst h4
  subst h2
  exact⟨γ,a,W,es',hr W es',ha γ.r,hW,Fr.refl γ v W,he⟩
 ·exact h.sim _
theorem Flat.pure {a:Value}(h:∀γ,VR Ok γ a a):Flat Ok P (Pure.pure a):=Or.inl ⟨a,h,fun _ _=>rfl⟩
theorem Flat.halt (q:Halt)(hm:Mild q:=by first|exact .panic _|exact .stuck _|exact .unsupported _ (fun g e=>by cases e)):Flat Ok P (.halt q):=Or.inr (NoOk.halt q hm)
theorem Flat.panic (e:RuntimeError):Flat Ok P (runtimePanic e):=Or.inr (NoOk.panic e)
theorem flat_intArith (op:BinOp)(k:IntKind)(a b:Int):Flat Ok P (Op.intArith op k a b):=by
 cases op<;>first|exact Flat.pure fun _=>.int _ _|exact Flat.halt _
theorem flat_intDiv (op:BinOp)(k:IntKind)(a b:Int):Flat Ok P (Op.intDiv op k a b):=by
 unfold Op.intDiv
 split
 ·exact Flat.panic _
 ·cases op<;>first|exact Flat.pure fun _=>.int _ _|exact Flat.halt _
theorem flat_intBits (op:BinOp)(k:IntKind)(a b:Int):Flat Ok P (Op.intBits op k a b):=by
 cases op<;>first|exact Flat.pure fun _=>.int _ _|exact Flat.halt _
theorem flat_intCmp (op:BinOp)(a b:Int):Flat Ok P (Op.intCmp op a b):=by
 cases op<;>first|exact Flat.pure fun _=>.bool _|exact Flat.halt _
theorem flat_shift (op:BinOp)(k:IntKind)(a:Int)(yk:IntKind)(b:Int):Flat Ok P (Op.shift op k a yk b):=by
 unfold Op.shift
 split
 ·exact Flat.panic _
 ·cases op<;>first|exact Flat.pure fun _=>.int _ _|exact Flat.halt _
theorem flat_string (op:BinOp)(a b:ByteArray):Flat Ok P (Op.stringOp op a b):=by
 unfold Op.stringOp
 dsimp only
 by_cases hop:op=.add
 ·subst hop
  dsimp only
  split
  ·exact Flat.halt _
  ·exact Flat.pure fun _=>.string _
 ·cases op<;>first|exact absurd rfl hop|exact Flat.pure fun _=>.bool _|exact Flat.halt _
theorem flat_intBin (op:BinOp)(t:TypeId)(k k':IntKind)(a b:Int):Flat Ok P (binOp op t (.int k a) (.int k' b)):=by
 unfold binOp
 cases op<;>dsimp only<;>first
  | exact flat_shift _ _ _ _ _
  | (split<;>first|exact Flat.halt _|exact flat_intArith _ _ _ _|exact flat_intDiv _ _ _ _|exact flat_intBits _ _ _ _|exact flat_intCmp _ _ _)
theorem flat_strBin (op:BinOp)(t:TypeId)(a b:ByteArray):Flat Ok P (binOp op t (.string a) (.string b)):=by
 unfold binOp
 cases op<;>exact flat_string _ _ _
theorem flat_not {x:Value}(hx:∃b,x=.bool b):Flat Ok P (Op.unary .not x):=by
 obtain⟨b,rfl⟩:=hx
 exact Flat.pure fun _=>.bool _
theorem sim_not {x x':Value}(h:VR Ok β.r x x'):Sim Ok P (VRr Ok) β (Op.unary .not x) (Op.unary .not x'):=by
 cases h with
 | bool b=>exact (flat_not ⟨b,rfl⟩).sim
 | _=>exact Sim.stuck _ _
theorem sim_index (t:TypeId)(ht:P.underlying t=some .string){x x' y y':Value}(h:VR Ok β.r x x')(hy:VR Ok β.r y y'):Sim Ok P (VRr Ok) β (Instr.index t x y) (Instr.index t x' y'):=by
 unfold Instr.index
 refine Sim.bind (sim_asIntOf hy) fun γ p p' hl hp=>?_
 subst hp
 obtain⟨k,i⟩:=p
 dsimp only
 refine Sim.bind (sim_underlying t) fun γ1 d d' hl1 hd=>?_
 obtain⟨rfl,hd⟩:=hd
 rw[ht] at hd
 obtain rfl:=Option.some.inj hd
 cases (h.mono hl).mono hl1 with
 | string s =>
  dsimp only
  split
  ·exact Sim.pure fun _ _=>.int _ _
  ·exact Sim.bounds _ _ _ _ _
 | _=>exact Sim.stuck _ _
theorem sim_convInt (s t:TypeId)(k k':IntKind)(hs:P.underlying s=some (.int k))(ht:P.underlying t=some (.int k')){x x':Value}(h:VR Ok β.r x x'):Sim Ok P (VRr Ok) β (convert s t x) (convert s t x'):=by
 unfold convert
 refine Sim.bind (sim_underlying s) fun γ d d' hl hd=>?_
 obtain⟨rfl,hd⟩:=hd
 rw[hs] at hd
 obtain rfl:=Option.some.inj hd
 refine Sim.bind (sim_underlying t) fun γ1 d d' hl1 hd=>?_
 obtain⟨rfl,hd⟩:=hd
 rw[ht] at hd
 obtain rfl:=Option.some.inj hd
 cases (h.mono hl).mono hl1 with
 | int k n=>exact Sim.pure fun _ _=>.int _ _
 | _=>exact Sim.unsupported _ _
theorem sim_len {ts:Array TypeId}(t0:TypeId){x x':Array Value}(h:AR Ok β.r x x'):Sim Ok P (VRr Ok) β (Builtin.len_ ts t0 x) (Builtin.len_ ts t0 x'):=by
 unfold Builtin.len_
 cases hx:x[0]? with
 | none =>
  rw[h.get_none hx]
  cases ts[0]?<;>exact Sim.stuck _ _
 | some u =>
  obtain⟨u',hu',hv⟩:=h.get hx
  rw[hu']
  cases ts[0]? with
  | none=>exact Sim.stuck _ _
  | some t =>
   dsimp only
   refine Sim.bind (sim_underlying t) fun γ d d' hl hd=>?_
   obtain⟨rfl,hd⟩:=hd
   have hv1:=hv.mono hl
   cases d with
   | string=>cases hv1<;>first|exact Sim.pure fun _ _=>.int _ _|exact Sim.stuck _ _
   | array n e=>exact Sim.pure fun _ _=>.int _ _
   | pointer arr =>
    refine Sim.bind (sim_underlying arr) fun γ1 d1 d1' hl1 hd1=>?_
    obtain⟨rfl,hd1⟩:=hd1
    cases d1<;>first|exact Sim.pure fun _ _=>.int _ _|exact Sim.stuck _ _
   | slice e=>cases hv1<;>first|exact Sim.pure fun _ _=>.int _ _|exact Sim.stuck _ _
   | map a b =>
    cases hv1 with
    | mnil=>exact Sim.pure fun _ _=>.int _ _
    | map hb =>
     refine Sim.bind (Sim.getObj hb) fun γ1 o o' hl1 ho=>?_
     obtain⟨ho,hnc⟩:=ho
     cases ho with
     | map clock hs he =>
      refine Sim.pure fun _ _=>?_
      rw[hs]
      exact .int _ _
     | cells e f f' hx hf=>exact absurd rfl (hnc _ _ _)
     | pre e f f' hs hx hf=>exact absurd rfl (hnc _ _ _)
     | number o sp lost hb=>exact Sim.stuck _ _
    | _=>exact Sim.stuck _ _
   | chan a b=>cases hv1<;>exact Sim.stuck _ _
   | _=>cases hv1<;>exact Sim.stuck _ _
theorem sim_lenOf {x x':Value}(h:VR Ok β.r x x'):Sim Ok P (fun _ n n'=>n=n') β (Builtin.lenOf x) (Builtin.lenOf x'):=by
 cases h<;>first|exact Sim.pure fun _ _=>rfl|exact Sim.stuck _ _
theorem AR.same {γ:Nat→Nat→Prop}{x:Array Value}(h:∀u∈x,VR Ok γ u u):AR Ok γ x x:=⟨rfl,fun i u u' h1 h2=>by
 rw[h1] at h2
 obtain rfl:=Option.some.inj h2
 exact h u (Array.mem_of_getElem? h1)⟩
theorem sim_firstCells (s n:Nat){x x':Value}(h:VR Ok β.r x x'):Sim Ok P (fun γ q q'=>AR Ok γ.r q q') β (Builtin.firstCells s n x) (Builtin.firstCells s n x'):=by
 cases h with
 | slice o sp l c hb=>exact sim_loadCells _ 0 ⟨hb,rfl,rfl⟩ (AR.empty _)
 | snil l c=>exact Sim.pure fun _ _=>AR.empty _
 | string q =>
  refine Sim.pure fun γ _=>AR.same fun u hu=>?_
  obtain⟨b,_,rfl⟩:=Array.mem_map.1 hu
  exact .int _ _
 | _=>exact Sim.stuck _ _
theorem sim_copy {ts:Array TypeId}(t0:TypeId){x x':Array Value}(h:AR Ok β.r x x'):Sim Ok P (VRr Ok) β (Builtin.copy_ ts t0 x) (Builtin.copy_ ts t0 x'):=by
 unfold Builtin.copy_
 cases hx:x[0]? with
 | none =>
  rw[h.get_none hx]
  cases ts[0]?<;>exact Sim.stuck _ _
 | some u =>
  obtain⟨u',hu',hv⟩:=h.get hx
  rw[hu']
  cases hy:x[1]? with
  | none =>
   rw[h.get_none hy]
   cases ts[0]?<;>exact Sim.stuck _ _
  | some z =>
   obtain⟨z',hz',hw⟩:=h.get hy
   rw[hz']
   cases ts[0]? with
   | none=>exact Sim.stuck _ _
   | some t =>
    dsimp only
    refine Sim.bind (sim_underlying t) fun γ d d' hl hd=>?_
    obtain⟨rfl,hd⟩:=hd
    cases d with
    | slice e =>
     dsimp only
     cases hv.mono hl with
     | snil l c =>
      dsimp only
      refine Sim.bind (sim_lenOf (hw.mono hl)) fun γ1 n n' hl1 hn=>?_
      subst hn
      refine Sim.bind (sim_sizeOf e) fun γ2 s s' hl2 hs=>?_
      subst hs
      refine Sim.bind (sim_firstCells s _ (((hw.mono hl).mono hl1).mono hl2)) fun γ3 q q' hl3 hq=>?_
      exact Sim.pure fun _ _=>.int _ _
     | slice o sp l c hb =>
      dsimp only
      refine Sim.bind (sim_lenOf (hw.mono hl)) fun γ1 n n' hl1 hn=>?_
      subst hn
      refine Sim.bind (sim_sizeOf e) fun γ2 s s' hl2 hs=>?_
      subst hs
      refine Sim.bind (sim_firstCells s _ (((hw.mono hl).mono hl1).mono hl2)) fun γ3 q q' hl3 hq=>?_
      refine Sim.bind (sim_storeCells 0 ⟨hl3 _ _ (hl2 _ _ (hl1 _ _ hb)),rfl,rfl⟩ hq.list) fun γ4 _ _ _ _=>?_
      exact Sim.pure fun _ _=>.int _ _
     | _=>exact Sim.stuck _ _
    | _=>exact Sim.stuck _ _
end Go.Proofs.YtjeicikflkjacaaGreatDoor.Par

/- A run in a memory of one's own, and the same run elsewhere: comparisons, maps with texts as keys, structs. -/
namespace Go.Proofs.YtjeicikflkjacaaGreatDoor.Par
open Go
variable {Ok:Cx} {P:Program} {β:Bij}
def OA (γ:Bij)(x x':Option Addr):Prop:=(x=none∧x'=none)∨∃a a',x=some a∧x'=some a'∧AdR γ a a'
theorem sim_numberAt {r r':Nat}(hr:β.r r r'):Sim Ok P (fun γ x x'=>(x=none∧x'=none)∨∃a a' l,x=some (a,l)∧x'=some (a',l)∧AdR γ a a') β (numberAt r) (numberAt r'):=by
 unfold numberAt
 refine Sim.bind (Sim.shape hr) fun γ s s' hl hs=>?_
 rcases hs with rfl|⟨e,n,n',rfl,rfl,_⟩
 rotate_left
 ·exact Sim.pure fun _ _=>Or.inl ⟨rfl,rfl⟩
 try dsimp only
 split
 ·exact Sim.pure fun _ _=>Or.inl ⟨rfl,rfl⟩
 ·refine Sim.bind (Sim.getObj (hl _ _ hr)) fun γ1 o o' hl1 ho=>?_
  obtain⟨ho,_⟩:=ho
  cases ho with
  | cells e f f' hx hf=>exact Sim.pure fun _ _=>Or.inl ⟨rfl,rfl⟩
  | pre e f f' hs hx hf=>exact Sim.pure fun _ _=>Or.inl ⟨rfl,rfl⟩
  | map c hs he=>exact Sim.pure fun _ _=>Or.inl ⟨rfl,rfl⟩
  | number o sp lost hb=>exact Sim.pure fun δ hd=>Or.inr ⟨_,_,_,rfl,rfl,⟨hd _ _ hb,rfl,rfl⟩⟩
theorem sim_behind {a a':Addr}(ha:AdR β a a'):Sim Ok P (fun γ x x'=>AdR γ x.1 x'.1∧x.2=x'.2) β (behindNumber a) (behindNumber a'):=by
 unfold behindNumber
 refine Sim.bind (sim_numberAt ha.b) fun γ x x' hl hx=>?_
 rcases hx with⟨rfl,rfl⟩|⟨b,b',l,rfl,rfl,hb⟩
 ·exact Sim.pure fun δ hd=>⟨(ha.later hl).later hd,rfl⟩
 ·exact Sim.pure fun δ hd=>⟨hb.later hd,rfl⟩
theorem sim_viewAt {r r':Nat}(hr:β.r r r'):Sim Ok P (fun _ x x'=>x=none∧x'=none) β (viewAt r) (viewAt r'):=by
 unfold viewAt
 refine Sim.bind (Sim.shape hr) fun γ s s' hl hs=>?_
 rcases hs with rfl|⟨e,n,n',rfl,rfl,_⟩
 rotate_left
 ·exact Sim.pure fun _ _=>⟨rfl,rfl⟩
 try dsimp only
 split
 ·exact Sim.pure fun _ _=>⟨rfl,rfl⟩
 ·refine Sim.bind (Sim.getObj (hl _ _ hr)) fun γ1 o o' hl1 ho=>?_
  obtain⟨ho,_⟩:=ho
  cases ho<;>exact Sim.pure fun _ _=>⟨rfl,rfl⟩
theorem sim_noView {a a':Addr}(ha:AdR β a a'):Sim Ok P (fun _ _ _=>True) β (noView a) (noView a'):=by
 unfold noView
 refine Sim.bind (sim_viewAt ha.b) fun γ x x' hl hx=>?_
 obtain⟨rfl,rfl⟩:=hx
 exact Sim.pure fun _ _=>trivial
theorem sim_byteOf {a a':Addr}(ha:AdR β a a'):Sim Ok P (fun _ n n'=>n=n') β (byteOf a) (byteOf a'):=by
 unfold byteOf
 rw[←ha.s]
 cases a.spot with
 | some s=>exact Sim.pure fun _ _=>rfl
 | none =>
  dsimp only
  refine Sim.bind Sim.program fun γ p p' hl hp=>?_
  obtain⟨rfl,rfl⟩:=hp
  refine Sim.bind (sim_noView (ha.later hl)) fun γ1 _ _ hl1 _=>?_
  refine Sim.bind (Sim.shape ((ha.later hl).later hl1).b) fun γ2 s s' hl2 hs=>?_
  have hs2:(s=none∧s'=none)∨∃e n n',s=some (e,n)∧s'=some (e,n'):=by
   rcases hs with rfl|⟨e,n,n',rfl,rfl,_⟩
   ·cases s with
    | none=>exact .inl ⟨rfl,rfl⟩
    | some q=>exact .inr ⟨q.1,q.2,q.2,rfl,rfl⟩
   ·exact .inr ⟨e,n,n',rfl,rfl⟩
  rcases hs2 with⟨rfl,rfl⟩|⟨e,n,n',rfl,rfl⟩
  ·exact Sim.stuck _ _
  ·dsimp only
   rw[←ha.o]
   split
   ·exact Sim.pure fun _ _=>rfl
   ·cases byteOfCell p' p'.depth e (a.off % p'.cellsOf e) with
    | none=>exact Sim.stuck _ _
    | some b=>exact Sim.pure fun _ _=>rfl
theorem cellAt_mono {p:Program}{d:Nat}{e:TypeId}{c c' off k:Nat}{n:Int}(h:cellAtBytes p d e c off n=some k)(hc:c≤c'):cellAtBytes p d e c' off n=some k:=by
 unfold cellAtBytes at h ⊢
 have hm:c*p.bytesOf e≤c'*p.bytesOf e:=Nat.mul_le_mul_right _ hc
 dsimp only at h ⊢
 by_cases h1:(decide (p.cellsOf e=0) || decide (p.bytesOf e=0))=true
 ·rw[if_pos h1] at h;exact absurd h (by simp[bind])
 ·rw[if_neg h1] at h ⊢
  cases hb:byteOfCell p d e (off % p.cellsOf e) with
  | none=>rw[hb] at h;exact absurd h (by simp[bind])
  | some b =>
   rw[hb] at h
   simp only[bind,Option.bind] at h ⊢
   split at h
   ·cases h
   ·rename_i h2
    rw[if_neg ?_]
    ·exact h
    ·simp only[Bool.or_eq_true,decide_eq_true_eq,not_or,Int.not_lt,ge_iff_le,Int.not_le,Int.ofNat_eq_natCast] at h2 ⊢
     refine⟨h2.1,Int.lt_of_lt_of_le h2.2 ?_⟩
     exact Int.ofNat_le.2 hm
theorem sim_unsafeAdd {ts:Array TypeId}(t:TypeId){x x' y y':Value}(h:VR Ok β.r x x')(hy:VR Ok β.r y y'):Sim Ok P (fun γ z z'=>(∃a a',z=.pointer (some a)∧z'=.pointer (some a')∧AdR γ a a')) β (Builtin.unsafeAdd_ ts t #[x,y]) (Builtin.unsafeAdd_ ts t #[x',y']):=by
 have main:∀ {γ:Bij} {p p':Option Addr},β.le γ→OA γ p p'→x=.pointer p→x'=.pointer p'→Sim Ok P (fun γ z z'=>(∃a a',z=.pointer (some a)∧z'=.pointer (some a')∧AdR γ a a')) γ (Builtin.unsafeAdd_ ts t #[.pointer p,y]) (Builtin.unsafeAdd_ ts t #[.pointer p',y']):=by
  intro γ p p' hl hp _ _
  unfold Builtin.unsafeAdd_
  dsimp only
  refine Sim.bind (sim_asInt (hy.mono hl)) fun γ1 n n' hl1 hn=>?_
  subst hn
  rcases hp with⟨rfl,rfl⟩|⟨a,a',rfl,rfl,ha⟩
  ·split
   ·exact Sim.unsupported _ _
   ·split
    ·exact (NoOk.first (NoOk.halt _) _).sim _
    ·exact Sim.unsupported _ _
  ·split
   ·refine Sim.bind (sim_viewAt (ha.later hl1).b) fun γ2 z z' hl2 hz=>?_
    obtain⟨rfl,rfl⟩:=hz
    exact Sim.pure fun δ hd=>⟨a,a',rfl,rfl,((ha.later hl1).later hl2).later hd⟩
   ·split
    ·exact (NoOk.first (NoOk.halt _) _).sim _
    ·refine Sim.bind (Sim.shape (ha.later hl1).b) fun γ2 s s' hl2 hs=>?_
     rcases hs with rfl|⟨e,k,k',rfl,rfl,hkk⟩
     rotate_left
     ·dsimp only
      refine Sim.bind Sim.program fun γ3 pr pr' hl3 hpr=>?_
      obtain⟨rfl,rfl⟩:=hpr
      rw[←ha.o]
      cases hcell:cellAtBytes pr' pr'.depth e (k / pr'.cellsOf e) a.off n with
      | none=>exact Sim.unsupported _ _
      | some off =>
       rw[cellAt_mono hcell (Nat.div_le_div_right hkk)]
       exact Sim.pure fun δ hd=>⟨_,_,rfl,rfl,⟨hd _ _ (hl3 _ _ (hl2 _ _ (hl1 _ _ ha.b))),rfl,ha.s⟩⟩
     cases s with
     | none=>exact Sim.unsupported _ _
     | some q =>
      obtain⟨e,k⟩:=q
      dsimp only
      refine Sim.bind Sim.program fun γ3 pr pr' hl3 hpr=>?_
      obtain⟨rfl,rfl⟩:=hpr
      rw[←ha.o]
      cases cellAtBytes pr' pr'.depth e (k / pr'.cellsOf e) a.off n with
      | none=>exact Sim.unsupported _ _
      | some off=>exact Sim.pure fun δ hd=>⟨_,_,rfl,rfl,⟨hd _ _ (hl3 _ _ (hl2 _ _ (hl1 _ _ ha.b))),rfl,ha.s⟩⟩
 cases h with
 | pnil=>exact main (Bij.le_refl _) (Or.inl ⟨rfl,rfl⟩) rfl rfl
 | ptr o sp hb=>exact main (Bij.le_refl _) (Or.inr ⟨_,_,rfl,rfl,⟨hb,rfl,rfl⟩⟩) rfl rfl
 | _=>exact Sim.stuck _ _
theorem sim_asNumber {a a':Addr}(ha:AdR β a a')(l:Bool):Sim Ok P (VRr Ok) β (asNumber a l) (asNumber a' l):=by
 obtain⟨b,o,s⟩:=a
 obtain⟨b',o',s'⟩:=a'
 obtain⟨h1,h2,h3⟩:=ha
 simp only at h1 h2 h3
 subst h2
 subst h3
 unfold asNumber
 refine Sim.bind (Sim.new (OR.number o s l h1)) fun γ r r' hl hr=>?_
 exact Sim.pure fun δ hd=>.ptr 0 none (hd _ _ hr)
theorem sim_movedNumber (t:TypeId){x x' y y':Value}(h:VR Ok β.r x x')(hy:VR Ok β.r y y'):Sim Ok P (VRr Ok) β (movedNumber t x y) (movedNumber t x' y'):=by
 unfold movedNumber
 refine Sim.bind (sim_underlying t) fun γ d d' hl hd=>?_
 obtain⟨rfl,hd⟩:=hd
 have rest:Sim Ok P (VRr Ok) γ (do
   let .pointer (some n):=x|Builtin.unsafeAdd_ #[] t #[x,y]
   let (a,lost) ← behindNumber n
   match ← Builtin.unsafeAdd_ #[] t #[.pointer (some a),y] with
   | .pointer (some b)=>asNumber b lost
   | v=>pure v) (do
   let .pointer (some n):=x'|Builtin.unsafeAdd_ #[] t #[x',y']
   let (a,lost) ← behindNumber n
   match ← Builtin.unsafeAdd_ #[] t #[.pointer (some a),y'] with
   | .pointer (some b)=>asNumber b lost
   | v=>pure v):=by
  have hg:=h.mono hl
  have hyg:=hy.mono hl
  have other:Sim Ok P (VRr Ok) γ (Builtin.unsafeAdd_ #[] t #[x,y]) (Builtin.unsafeAdd_ #[] t #[x',y']):=(sim_unsafeAdd t hg hyg).mono fun δ z z' _ hz=>by
   obtain⟨a,a',rfl,rfl,ha⟩:=hz
   exact ha.vr
  cases hg with
  | ptr o sp hb =>
   dsimp only
   refine Sim.bind (sim_behind (a:=⟨_,o,sp⟩) (a':=⟨_,o,sp⟩) ⟨hb,rfl,rfl⟩) fun γ1 q q' hl1 hq=>?_
   obtain⟨a,lo⟩:=q
   obtain⟨a',lo'⟩:=q'
   obtain⟨ha,hlo⟩:=hq
   simp only at ha hlo
   subst hlo
   dsimp only
   refine Sim.bind (sim_unsafeAdd t ha.vr (hyg.mono hl1)) fun γ2 z z' hl2 hz=>?_
   obtain⟨b,b',rfl,rfl,hb'⟩:=hz
   exact sim_asNumber hb' lo
  | _=>exact other
 cases d<;>first|exact (NoOk.first (NoOk.halt _) _).sim _|exact rest
end Go.Proofs.YtjeicikflkjacaaGreatDoor.Par
