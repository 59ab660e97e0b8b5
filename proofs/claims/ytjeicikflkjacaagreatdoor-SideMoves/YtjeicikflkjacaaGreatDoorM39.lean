/- The rest of a frame, from the middle of a region, by the wp calculus. -/
import Derived.Test.YtjeicikflkjacaaGreatDoorM38
import Derived.Test.YtjeicikflkjacaaGreatDoorM28
import Derived.Test.YtjeicikflkjacaaGreatDoorM0
import Derived.Test.YtjeicikflkjacaaGreatDoorM10
import Derived.RegionTactic
import Derived.Conc.SmallLaws
import Derived.Test.YtjeicikflkjacaaGreatDoorM7
import Derived.Conc.WgGenN3
import Derived.Test.YtjeicikflkjacaaGreatDoorM27
import Derived.Conc.CrowdStepW
namespace Go.Proofs.YtjeicikflkjacaaGreatDoor.Po
open Go
open Par (Fm Gr on stopper)
def wpC (P:Program)(Q:Exit→Act→World→Prop):List Code→Act→World→Prop
 | [],a,w=>Q .normal a w
 | c :: l,a,w=>c.wp P (Exit.then (wpC P Q l) Q) a w
theorem pass_all {P:Program}{m:Machine}{b:Frame}{cs:List Frame}{e:Exit}{a:Act}{w:World}(hn:e≠.normal)(l:List Code){k:List Item}(h:Arrives P m b (l.map Item.code++k) cs e a w):Arrives P m b k cs e a w:=by
 induction l with
 | nil=>exact h
 | cons c l ih=>exact ih (.pass (x:=.code c) rfl (fun _ _=>.inl hn) h)
theorem wpC_arr {P:Program}{Q:Exit→Act→World→Prop}(l:List Code):∀(a:Act) (w:World),wpC P Q l a w→∀(b:Frame) (k:List Item) (cs:List Frame),∃e a' w',Q e a' w'∧Arrives P (lone (b.at a (l.map Item.code++k)) cs w) b k cs e a' w':=by
 induction l with
 | nil=>exact fun a w h b k cs=>⟨.normal,a,w,h,Steps.refl _ _⟩
 | cons c l ih =>
  intro a w h b k cs
  obtain⟨e,a1,w1,hq,har⟩:=h b (l.map Item.code++k) cs
  by_cases hn:e=.normal
  ·subst hn
   obtain⟨e2,a2,w2,hq2,har2⟩:=ih a1 w1 hq b k cs
   exact⟨e2,a2,w2,hq2,.of_steps har har2⟩
  ·refine⟨e,a1,w1,?_,pass_all hn l har⟩
   cases e with
   | normal=>exact absurd rfl hn
   | _=>exact hq
theorem wpO_arr {P:Program}{Q:Exit→Act→World→Prop}{ops:Array Oper}{is:List Nat}{l:List Code}{a:Act}{w:World}(h:wpOps P ops (Exit.then (wpC P Q l) Q) is a w)(b:Frame)(k:List Item)(cs:List Frame):∃e a' w',Q e a' w'∧Arrives P (lone (b.at a (.inRegion ops is :: (l.map Item.code++k))) cs w) b k cs e a' w':=by
 obtain⟨e,a1,w1,hq,har⟩:=wp_ops is a w h b (l.map Item.code++k) cs
 by_cases hn:e=.normal
 ·subst hn
  obtain⟨e2,a2,w2,hq2,har2⟩:=wpC_arr l a1 w1 hq b k cs
  exact⟨e2,a2,w2,hq2,.of_steps har har2⟩
 ·refine⟨e,a1,w1,?_,pass_all hn l har⟩
  cases e with
  | normal=>exact absurd rfl hn
  | _=>exact hq
theorem leaves_of {P:Program}{f:FuncId}{fn:Func}(hf:P.funcs[f]?=some fn){R:Value→World→Prop}{t:Array Value}{k:List Item}{v:World}
  (h:∃e a' w',bodyPost P fn (fun e w=>∃u,e=.returned u∧R u w) e a' w'∧Arrives P (lone (Fm f t k .run) [stopper] v) (Fm f t [] .run) [] [stopper] e a' w'):∃fr v' u,Steps P (lone (Fm f t k .run) [stopper] v) (lone fr [stopper] v')∧fr.leaving P v' (.returned u)∧R u v':=by
 obtain⟨e,a',w',hq,harr⟩:=h
 cases e with
 | normal =>
  obtain⟨hd,u,hr,u',e',hR⟩:=hq
  cases e'
  exact⟨_,w',u,Steps.trans harr (.one step_end),⟨rfl,hd,rfl,fn,hf,hr⟩,hR⟩
 | ret =>
  obtain⟨hd,u,hr,u',e',hR⟩:=hq
  cases e'
  obtain⟨todo,hs⟩:=harr
  exact⟨_,w',u,hs,⟨rfl,hd,rfl,fn,hf,hr⟩,hR⟩
 | panic chain =>
  obtain⟨_,u,e',_⟩:=hq
  cases e'
 | outgrown =>
  obtain⟨u,e',_⟩:=hq
  cases e'
 | exit id=>exact hq.elim
 | goto l=>exact hq.elim
theorem rest_leaves {P:Program}{f:FuncId}{fn:Func}(hf:P.funcs[f]?=some fn){R:Value→World→Prop}{t:Array Value}{ops:Array Oper}{is:List Nat}{l:List Code}{v:World}
  (h:wpOps P ops (Exit.then (wpC P (bodyPost P fn (fun e w=>∃u,e=.returned u∧R u w)) l) (bodyPost P fn (fun e w=>∃u,e=.returned u∧R u w))) is ⟨t,[]⟩ v) :
  ∃fr v' u,Steps P (lone (Fm f t (.inRegion ops is :: l.map Item.code) .run) [stopper] v) (lone fr [stopper] v')∧fr.leaving P v' (.returned u)∧R u v':=by
 refine leaves_of hf ?_
 have:=wpO_arr h (Fm f t [] .run) [] [stopper]
 rw[List.append_nil] at this
 exact this
end Go.Proofs.YtjeicikflkjacaaGreatDoor.Po

/- answers, behind share's return. -/
namespace Go.Proofs.YtjeicikflkjacaaGreatDoor
open Go.RowKit
noncomputable def ops19:Array Oper:=match Tryz.f19.body.getD .skip with|.seq _ (.seq _ (.seq (.seq (.region _ ops _) _) _))=>ops|_=>#[]
noncomputable def blk19:Code:=match Tryz.f19.body.getD .skip with|.seq _ (.seq _ (.seq (.seq _ b) _))=>b|_=>.skip
noncomputable def end19:Code:=match Tryz.f19.body.getD .skip with|.seq _ (.seq _ (.seq _ e))=>e|_=>.skip
def AnsR (a:Nat→Addr)(N:Nat)(ks:Nat→Int)(cs:Nat→Nat)(w:World)(u:Value)(w':World):Prop:=Below w.heap.size w w' ∧
  (((∀i,i<N→cs i=0)∧∃v,u=.tuple #[v,.nilIface]∧w'.ownsRow w.heap.size 3 1 v N (((List.range N).map ks).map (Value.int .i64))) ∨
   (∃j,j<N∧(∀i,i<j→cs i=0)∧cs j≠0∧∃ev,u=.tuple #[.slice none 0 0,ev]∧ErrIs a w' (cs j) (j:Nat) ev))
set_option maxHeartbeats 4000000 in
set_option maxRecDepth 100000 in
theorem answers_rest (a:Nat→Addr)(N bL:Nat)(wk:Int)(fv:Value)(ks:Nat→Int)(es:Nat→Value)(cs:Nat→Nat)(pl:Nat→Int)(w:World)(he:Errs a w)(hN:N<1000000)
  (hc:∀i,i<N→w.cell? ⟨bL,i*3,none⟩=some (.int .i64 (i:Nat))∧w.cell? ⟨bL,i*3+1,none⟩=some (.int .i64 (ks i))∧w.cell? ⟨bL,i*3+2,none⟩=some (es i)) (hE:∀i,i<N→ErrIs a w (cs i) (pl i) (es i)) :
  wpOps Tryz.prog ops19 (Exit.then (Po.wpC Tryz.prog (bodyPost Tryz.prog Tryz.f19 (fun e w'=>∃u,e=.returned u∧AnsR a N ks cs w u w')) [blk19,end19]) (bodyPost Tryz.prog Tryz.f19 (fun e w'=>∃u,e=.returned u∧AnsR a N ks cs w u w'))) [4,5]
   ⟨#[.int .i64 (N:Nat),.int .i64 wk,fv,undef,undef,undef,.slice none 0 0,.nilIface,.slice none 0 0,undef,undef,.int .i64 (N:Nat),.int .i64 wk,fv,.slice (some ⟨bL,0,none⟩) N N,undef,undef,undef,undef,undef,undef,undef,undef,undef,undef,undef,undef,undef,undef,undef,undef,undef,undef,undef,undef,undef,undef,undef],[]⟩ w:=by
 have HE:Hid (∀i,i<N→ErrIs a w (cs i) (pl i) (es i)):=hE
 have HC:Hid (∀i,i<N→w.cell? ⟨bL,i*3,none⟩=some (.int .i64 (i:Nat))∧w.cell? ⟨bL,i*3+1,none⟩=some (.int .i64 (ks i))∧w.cell? ⟨bL,i*3+2,none⟩=some (es i)):=hc
 have HER:Hid (Errs a w):=he
 clear hE hc he
 obtain⟨ii,hi,hz0,hz1,hz2⟩:=info_parts infoI
 have hw:∀(l:List Oper) (Q:Exit→Act→World→Prop) (A:Act),(∀j,l[j]?=ops19[4+j]?)→l.length=2→wpList Tryz.prog ops19 Q l A w→wpOps Tryz.prog ops19 Q [4,5] A w:=fun l Q A h1 h2 h=>by
  have:=wpOps_eq_wpList (P:=Tryz.prog) (Q:=Q) (ops:=ops19) l 4 h1
  rw[h2] at this
  have e:List.range' 4 2=[4,5]:=rfl
  rw[e] at this
  rw[this]
  exact h
 refine hw (ops19.toList.drop 4) _ _ (fun j=>by simp) (by simp[ops19,Tryz.f19]) ?_
 simp only[ops19,Tryz.f19,Option.getD_some,List.drop,Po.wpC,blk19,end19]
 clear hw
 go_wp2_with fail
 go_loopw [8,16] (fun v t W=>Below w.heap.size w W∧∃i:Nat,i≤N∧t=.int .i64 i∧(∀j,j<i→cs j=0)∧W.ownsRow w.heap.size 3 1 v i (((List.range i).map ks).map (Value.int .i64))) (fun _ t _=>N - (intOf t).toNat)
 case atStart=>exact⟨Below.refl _ _,0,Nat.zero_le _,rfl,fun j h=>absurd h (Nat.not_lt_zero _),World.ownsRow_nil _ _ _ _⟩
 case round =>
  obtain⟨hb,i,hile,rfl,hz,hown⟩:=hrel
  have HZ:Hid (∀j,j<i→cs j=0):=hz
  have HO:Hid (wr.ownsRow w.heap.size 3 1 u8 i (((List.range i).map ks).map (Value.int .i64))):=hown
  clear hz hown
  by_cases hlt:i<N
  ·obtain⟨q0,q1,q2⟩:=HC.out i hlt
   have c0:=below_cell hb q0
   have c1:=below_cell hb q1
   have c2:=below_cell hb q2
   have hii:(i:Int)<(N:Int):=by omega
   have hd:decide ((i:Int)<(N:Int))=true:=by simp;omega
   clear q0 q1 q2
   have HEI:Hid (ErrIs a w (cs i) (pl i) (es i)):=HE.out i hlt
   generalize es i=e at c2 HEI
   by_cases hci:cs i=0
   ·obtain rfl:e=.nilIface:=by
     rcases HEI.out with⟨_,_,h⟩|⟨j,_,h,_⟩
     ·exact h
     ·omega
    have hmx:i+1≤maxLen:=by unfold maxLen;omega
    have hsz:(wr.alloc (.cells #[.int .i64 (i:Nat),.int .i64 (ks i),.nilIface] 65)).heap.size=wr.heap.size+1:=by simp
    have hnew:=cell_one_new (wr.alloc (.cells #[.int .i64 (i:Nat),.int .i64 (ks i),.nilIface] 65)) (.int .i64 (ks i)) 3
    rw[hsz] at hnew
    have hbs:∀q p,w.heap.size≤((wr.alloc q).alloc p).heap.size:=fun q p=>by
     have h1:((wr.alloc q).alloc p).heap.size=wr.heap.size+1+1:=by simp
     have:=hb.size
     omega
    have hbq:∀q,w.heap.size≤(wr.alloc q).heap.size:=fun q=>by
     have h1:(wr.alloc q).heap.size=wr.heap.size+1:=by simp
     have:=hb.size
     omega
    clear hsz
    go_wp2_with (at_builtin;refine wpList_append_own _ rfl _ _ 27 rfl w.heap.size 3 ii _ 1 8 Tryz.underlying27 hi hz0 hz1 hz2 rfl (by decide) _ i _ rfl ((HO.out.alloc _).alloc _) ⟨wr.heap.size+1,0,none⟩ 1 1 [.int .i64 (ks i)] rfl rfl hnew (ints_oneCell1 _) hmx (by omega) (hbs _ _) ?_)
    intro v2 w3 hown2 hg2 _
    have hb3:Below w.heap.size w w3:=((hb.alloc hb.size _).alloc (hbq _) _).grown hg2 (hbs _ _) (fun k h=>(HO.out.lt k h).1)
    have HO2:Hid (w3.ownsRow w.heap.size 3 1 v2 (i+1) (((List.range (i+1)).map ks).map (Value.int .i64))):=by
     have h1:=hown2
     have e:((List.range (i+1)).map ks).map (Value.int .i64)=((List.range i).map ks).map (Value.int .i64)++[.int .i64 (ks i)]:=by
      rw[List.range_succ,List.map_append,List.map_append]
      rfl
     rw[e,List.map_map]
     exact h1
    clear hown2 hg2 hnew hbs hbq
    go_wp2_with fail
    refine⟨⟨hb3,i+1,by omega,by go_num,fun j hj=>?_,HO2.out⟩,by simp[intOf];omega⟩
    rcases Nat.lt_or_eq_of_le (Nat.lt_succ_iff.1 hj) with h|rfl
    ·exact HZ.out j h
    ·exact hci
   ·obtain⟨t1,x1,rfl⟩:=errIs_pos HEI.out hci
    have hb1:Below w.heap.size w (wr.alloc (.cells #[.int .i64 (i:Nat),.int .i64 (ks i),.iface t1 x1] 65)):=hb.alloc hb.size _
    have k0:(wr.alloc (.cells #[.int .i64 (i:Nat),.int .i64 (ks i),.iface t1 x1] 65)).cell? ⟨wr.heap.size,0,none⟩=some (.int .i64 (i:Nat)):=by simp
    have k2:(wr.alloc (.cells #[.int .i64 (i:Nat),.int .i64 (ks i),.iface t1 x1] 65)).cell? ⟨wr.heap.size,2,none⟩=some (.iface t1 x1):=by simp
    obtain⟨m,hm9,hcm⟩:∃m,m<9∧cs i=m+1:=by
     rcases HEI.out with⟨h,_⟩|⟨m,h1,h2,_⟩
     ·exact absurd h hci
     ·exact⟨m,h1,h2⟩
    go_wp2_with fail
    generalize wr.alloc (.cells #[.int .i64 (i:Nat),.int .i64 (ks i),.iface t1 x1] 65)=W1 at *
    have HB1:Hid (Below w.heap.size w W1):=hb1
    have HK:Hid (∀W',Below W1.heap.size W1 W'→Below W1.heap.size W1 W'∧W'.cell? ⟨wr.heap.size,0,none⟩=some (.int .i64 (i:Nat))∧W'.cell? ⟨wr.heap.size,2,none⟩=some (.iface t1 x1)):=fun W' h=>⟨h,below_cell h k0,below_cell h k2⟩
    have HW:Hid (∀W',Below W1.heap.size W1 W'→Calls Tryz.prog 32 #[.iface t1 x1] W' fun e w'=>e=.returned (.iface 179 (.pointer (some (a m))))∧Below W1.heap.size W1 w'):=fun W' h=>by
     have hbw:=below_then hb1 h
     have:=without_any a (cs i) (pl i) (.iface t1 x1) W' (HER.out.later hbw) hci (HEI.out.later hbw)
     rw[hcm] at this
     exact this.mono fun e w' ⟨h1,h2⟩=>⟨h1,below_then h h2⟩
    clear hb1
    go_region_held3 (fun W'=>Below W1.heap.size W1 W'∧W'.cell? ⟨wr.heap.size,0,none⟩=some (.int .i64 (i:Nat))∧W'.cell? ⟨wr.heap.size,2,none⟩=some (.iface t1 x1))
     (first|exact HK.out _ (by assumption)|exact HK.out _ (below_drewN (Below.refl _ _) 1)|exact HK.out _ (Below.refl _ _)|exact HK.out _ (Below.alloc hbz hbz.size _))
     (first|(go_at_call 32;refine (HW.out _ (by first|assumption|exact Below.refl _ _|exact below_drewN (Below.refl _ _) 1)).mono ?_;rintro e wz ⟨rfl,hbz⟩))
    all_goals
     go_wp2
     go_ret2
     refine⟨_,rfl,(below_then HB1.out hbz).alloc (Nat.le_trans HB1.out.size hbz.size) _,.inr ⟨i,hlt,HZ.out,hci,_,rfl,?_⟩⟩
     rw[hcm]
     exact .inr ⟨m,hm9,rfl,.inr ⟨wz.heap.size,rfl,by simp,by simp⟩⟩
  ·obtain rfl:i=N:=by omega
   have hd:decide ((i:Int)<(i:Int))=false:=by simp
   go_wp2
   go_ret2
   exact⟨_,rfl,hb,.inl ⟨HZ.out,_,rfl,HO.out⟩⟩
end Go.Proofs.YtjeicikflkjacaaGreatDoor

/- share: its first two statements, in a memory of its own. -/
set_option linter.unusedSimpArgs false
set_option linter.unusedVariables false
namespace Go.Proofs.YtjeicikflkjacaaGreatDoor.Sh
open Go Go.RowKit Go.Conc
noncomputable def cut31:Code:=match Tryz.f31.body.getD .skip with|.seq a (.seq b _)=>.seq a (.seq b .skip)|_=>.skip
noncomputable def rest31:Code:=match Tryz.f31.body.getD .skip with|.seq _ (.seq _ c)=>c|_=>.skip
structure Lay (w w':World)(fw:FuncId)(cap:Array Value)(bK bN bR cN cR:Nat):Prop where
 size:w'.heap.size=w.heap.size+5
 old:∀b,b<w.heap.size→w'.heap[b]?=w.heap[b]?
 lo:w.heap.size≤bK∧w.heap.size≤bN∧w.heap.size≤bR∧w.heap.size≤cN∧w.heap.size≤cR
 hi:bK<w'.heap.size∧bN<w'.heap.size∧bR<w'.heap.size∧cN<w'.heap.size∧cR<w'.heap.size
 ne:cN≠cR∧cN≠bN∧cN≠bK∧cN≠bR∧cR≠bN∧cR≠bK∧cR≠bR∧bK≠bN∧bK≠bR∧bN≠bR
 k:w'.heap[bK]?=some (.cells #[.func (.func fw) #[] cap] 51)
 n:w'.heap[bN]?=some (.cells #[.chan (some cN)] 83)
 r:w'.heap[bR]?=some (.cells #[.chan (some cR)] 84)
 cn:w'.heap[cN]?=some (.chan 0 #[] false 0 0 false)
 cr:w'.heap[cR]?=some (.chan 0 #[] false 0 0 false)
 os:w'.os=w.os∧w'.output=w.output
set_option maxRecDepth 100000 in
set_option maxHeartbeats 8000000 in
theorem begin31 (n m:Int)(fw:FuncId)(cap:Array Value)(w:World):cut31.wp Tryz.prog (fun e a w'=>e=.normal∧a.defers=[]∧∃bK bN bR cN cR:Nat,a.tmps=#[.int .i64 n,.int .i64 m,.func (.func fw) #[] cap,undef,undef,.pointer (some ⟨bK,0,none⟩),.slice none 0 0,.pointer (some ⟨bN,0,none⟩),.pointer (some ⟨bR,0,none⟩),undef,undef,.chan (some cN),.chan (some cR),undef,undef,undef,undef,undef,undef,undef,undef,undef,undef,undef,undef,undef,undef,undef]∧Lay w w' fw cap bK bN bR cN cR) ⟨#[.int .i64 n,.int .i64 m,.func (.func fw) #[] cap,undef,undef,undef,undef,undef,undef,undef,undef,undef,undef,undef,undef,undef,undef,undef,undef,undef,undef,undef,undef,undef,undef,undef,undef,undef],[]⟩ w:=by
 simp only[cut31,Tryz.f31,Option.getD_some]
 have h83:∀W:World,(Instr.makeChan 83 (.int .i64 0)).run Tryz.prog W=.ok (.chan (some W.heap.size)) (W.alloc (.chan 0 #[] false 0 0 false)):=fun W=>by
  simp[Instr.makeChan,asInt,asIntOf,go_sem,IntKind.max,IntKind.bits,IntKind.signed]
 have h84:∀W:World,(Instr.makeChan 84 (.int .i64 0)).run Tryz.prog W=.ok (.chan (some W.heap.size)) (W.alloc (.chan 0 #[] false 0 0 false)):=fun W=>by
  simp[Instr.makeChan,asInt,asIntOf,go_sem,IntKind.max,IntKind.bits,IntKind.signed]
 go_wp2_with fail
 go_region
 all_goals
  rename_i K hK
  refine hK _ _ (wp_skip ⟨rfl,rfl,_,_,_,_,_,rfl,?_⟩)
  refine⟨?_,fun b hb=>?_,⟨?_,?_,?_,?_,?_⟩,⟨?_,?_,?_,?_,?_⟩,⟨?_,?_,?_,?_,?_,?_,?_,?_,?_,?_⟩,?_,?_,?_,?_,?_,rfl,rfl⟩
  all_goals try simp only[World.alloc,World.drew,Array.size_push,Array.getElem?_push,Nat.reduceAdd,Nat.add_assoc,ne_eq,if_true,↓reduceIte]
  all_goals first
   | omega
   | ((repeat rw[if_neg (by omega)]);rw[if_pos (by omega)];done)
   | ((repeat rw[if_neg (by omega)]);done)
end Go.Proofs.YtjeicikflkjacaaGreatDoor.Sh

/- sync.WaitGroup's Done by a worker: its own steps up to what it lets go, and on to 'disable'. -/
set_option linter.unusedSimpArgs false
set_option linter.unusedVariables false
namespace Go.Proofs.YtjeicikflkjacaaGreatDoor.Ms
open Go Go.Conc Go.Conc.Lib Go.RowKit Go.ConcN Go.ConcR.Gen Go.ConcN.Gen
open Go.ConcR (KK wgBlock WgAt stA smA rd wr mk Payload Aside2 DC0)
section
variable (P:Program) (Wg:Nat) (B:World→Prop)
def K1G (g:Goroutine):Prop:=g.status=.running∧∃g1,∀w,stepG P false g w=.go g1 w #[mk .disable]
def R0G (g:Goroutine):Prop:=g.status=.running∧∃g1,(∀w,stepG P false g w=.go g1 w #[mk (.releaseMerge (stA Wg))])∧To P false B (fun _=>False) (K1G P) g1
end
section
variable {P:Program} {L:WgLink} {Wg:Nat} {B:World→Prop} {cs:List Frame} {c:Frame}
set_option maxRecDepth 100000 in
set_option maxHeartbeats 16000000 in
theorem done_walk [Payload] (H:WgLib P L)(hB:∀w,B w→WgLive L.tWg Wg w) :
  To P false B (fun _=>False) (R0G P Wg B) (G ((baseD L.done).at ⟨#[.pointer (some ⟨Wg,0,none⟩),undef,undef,undef],[]⟩ [.code (body_done L)]) (c :: cs)):=by
 lib_facts
 simp only[body_done,doneFn,Option.getD_some]
 refine To.ctl rfl (fun _ _=>stepG_region) ?_;simp only[List.size_toArray,List.length_cons,List.length_nil,Nat.reduceAdd,Nat.zero_add,List.range,List.range.loop]
 refine To.value _ rfl rfl (by k_ne) (fun _ _=>by go_simp<;>rfl) (fun _ _=>by first|(simp[go_sem];done)|simp[go_sem, *]) ?_;walk_nrm;try w_num
 refine To.call rfl rfl (by k_ne) rfl H.f_add (nm_add L) rfl ?_;walk_nrmf addFn
 refine To.ctl rfl (fun _ _=>stepG_seq) ?_
 refine To.ctl rfl (fun _ _=>stepG_cond (t:=true) rfl) ?_;simp only[if_true,if_false,Bool.false_eq_true,↓reduceIte]
 refine To.ctl rfl (fun _ _=>stepG_seq) ?_
 refine To.ctl rfl (fun _ _=>stepG_seq) ?_
 refine To.ctl rfl (fun _ _=>stepG_region) ?_;simp only[List.size_toArray,List.length_cons,List.length_nil,Nat.reduceAdd,Nat.zero_add,List.range,List.range.loop]
 refine To.value _ rfl rfl (by k_ne) (fun _ _=>by go_simp<;>rfl) (fun _ _=>by first|(simp[go_sem];done)|simp[go_sem, *]) ?_;walk_nrm;try w_num
 refine To.value _ rfl rfl (by k_ne) (fun _ _=>by go_simp<;>rfl) (fun _ _=>by first|(simp[go_sem];done)|simp[go_sem, *]) ?_;walk_nrm;try w_num
 refine To.ctl rfl (fun _ _=>stepG_region_end) ?_
 refine To.ctl rfl (fun _ _=>stepG_cond (t:=true) rfl) ?_;simp only[if_true,if_false,Bool.false_eq_true,↓reduceIte]
 refine To.ctl rfl (fun _ _=>stepG_region) ?_;simp only[List.size_toArray,List.length_cons,List.length_nil,Nat.reduceAdd,Nat.zero_add,List.range,List.range.loop]
 refine To.value _ rfl rfl (by k_ne) (fun _ _=>by go_simp<;>rfl) (fun _ _=>by first|(simp[go_sem];done)|simp[go_sem, *]) ?_;walk_nrm;try w_num
 refine To.value _ rfl rfl (by k_ne) (fun w hb=>by have hcv:=run_convert_to_unsafe (P:=P) H.underlying_tWgP H.underlying_tUP H.room_tWg (WgLive.cell0 (hB w hb)).choose_spec;go_simp<;>rfl) (fun w hb=>by have hce:=fun es=>events_convert_to_unsafe (P:=P) H.underlying_tWgP H.underlying_tUP H.room_tWg (WgLive.cell0 (hB w hb)).choose_spec es;simp[go_sem,hce]) ?_;walk_nrm
 refine To.nil ⟨rfl,_,fun w=>stepG_markAt .releaseMerge (by simp) rfl rfl (by k_ne) rfl H.f_relMerge (x_relMerge_n L) (x_relMerge_b L) (x_relMerge_x L) (x_relMerge_f L) (by simp[Act.eval,stA]),?_⟩
 walk_nrm
 refine To.ctl rfl (fun _ _=>stepG_region_end) ?_
 refine To.ctl rfl (fun _ _=>stepG_seq) ?_
 refine To.ctl rfl (fun _ _=>stepG_region) ?_;simp only[List.size_toArray,List.length_cons,List.length_nil,Nat.reduceAdd,Nat.zero_add,List.range,List.range.loop]
 exact To.nil ⟨rfl,_,fun w=>stepG_mark0 .disable (by simp) rfl rfl (by k_ne) rfl H.f_disable (x_disable_n L) (x_disable_b L) (x_disable_x L) (x_disable_f L)⟩
theorem goes_along {R:World→World→Prop}{D:World→World→Array Event→Prop}{Stop:Goroutine→World→Prop}(hR:∀w,R w w){w:World}(hw:B w)(hS:∀g w,Stop g w→∃g1,stepG P false g w=.go g1 w #[mk (.releaseMerge (stA Wg))]){n:Nat}{g g2:Goroutine}(h:Sl P false B (fun _=>False) n g g2) :
  ∀ {m:Nat},Goes P false R D Stop m g w→∃m',Goes P false R D Stop m' g2 w:=by
 induction h with
 | nil=>exact fun hg=>⟨_,hg⟩
 | cons hs he hst t ih =>
  intro m hg
  rename_i es
  have hes:es=#[]:=by
   exact Array.eq_empty_iff_forall_not_mem.2 fun e hm=>he e hm
  subst hes
  rcases Goes.cases hg with hstop|⟨m',rfl,hstep⟩
  ·obtain⟨g1,h1⟩:=hS _ _ (hstop w (hR w))
   rw[hst w hw] at h1
   simp at h1
  ·obtain⟨g',w',es,hgo,_,hg'⟩:=hstep w (hR w)
   rw[hst w hw] at hgo
   cases hgo
   exact ih hg'
end
end Go.Proofs.YtjeicikflkjacaaGreatDoor.Ms

/- A caller and its workers: numbers is closed; all leave. -/
set_option linter.unusedVariables false
namespace Go.Proofs.YtjeicikflkjacaaGreatDoor.Ms
open Go Go.Conc Go.Conc.Lib Go.ConcN
open Go.ConcR (KK wgBlock WgAt stA smA rd wr mk Payload Aside2 DC0 g_of_ofEvents ofEvent_cell ofEvent_mk Bk)
open Par (Cx LocIn Bij VR WR AR OR idB shutW Work Fr EsR EvR LR)
open Mk (Still CaseOk ChanOpen go_still comm_any offers_at Acs Down meets_send meets_recv)
section
variable (k:Kt)
abbrev noO:Nat→Loc→Prop:=fun _ _=>False
def R1G (g:Goroutine):Prop:=g.status=.running∧∃g1,(∀w,stepG PP false g w=.go g1 w #[mk (.releaseMerge (stA k.wg))])∧∀w,Bc k w→∃m,Goes PP false (RW lk.tWg k.wg k.bK 1 0 0) DC0 (AtK1 PP lk.tWg k.wg k.bK 1 0 1) m g1 w
theorem done_r1 {g:Goroutine}(h:DoneG k g):To PP false (Bc k) (fun _=>False) (R1G k) g:=by
 obtain⟨c,cs,q,hc,hq,rfl⟩:=h
 obtain⟨n,g2,hsl,hrun,g1,hst,n1,g3,hsl1,hr3,g4,hk1⟩:=done_walk (P:=PP) (L:=lk) (Wg:=k.wg) (B:=Bc k) (cs:=cs) (c:=c) wgLib (fun w hw=>hw.2)
 refine⟨n,g2,hsl,hrun,g1,hst,fun w hw=>?_⟩
 have hS:∀g w,AtR0 PP lk.tWg k.wg k.bK 1 0 1 (.func (.func k.fw) #[] k.cap) g w→∃g1,stepG PP false g w=.go g1 w #[mk (.releaseMerge (stA k.wg))]:=fun g w h=>by
  obtain⟨_,_,g',h1,_⟩:=h
  exact⟨g',h1⟩
 have hd:=Go.ConcN.Gen.doneN (Own:=noO) (Rd:=noO) (Wg:=k.wg) (C:=k.bK) (n:=1) (Low:=0) (k:=1) (val:=.func (.func k.fw) #[] k.cap) wgLib hc hq w ⟨hw.2,hw.1.f⟩
 obtain⟨m1,hg2⟩:=goes_along (RW.refl) hw hS hsl hd
 rcases Goes.cases hg2 with hstop|⟨m',rfl,hstep⟩
 ·obtain⟨_,_,g',h1,hm⟩:=hstop w (RW.refl w)
  rw[hst w] at h1
  cases h1
  exact hm
 ·exfalso
  obtain⟨g',w',es,hgo,_,hg'⟩:=hstep w (RW.refl w)
  rw[hst w] at hgo
  cases hgo
  obtain⟨m3,hg3⟩:=goes_along (RW.refl) hw hS hsl1 hg'
  rcases Goes.cases hg3 with hstop|⟨m4,rfl,hstep3⟩
  ·obtain⟨g',h1⟩:=hS _ _ (hstop w (RW.refl w))
   rw[hk1 w] at h1
   simp[mk] at h1
  ·obtain⟨g',w',es,hgo,⟨_,hev⟩,_⟩:=hstep3 w (RW.refl w)
   rw[hk1 w] at hgo
   cases hgo
   exact (hev (mk .disable) (by simp)).2.1 rfl
end
end Go.Proofs.YtjeicikflkjacaaGreatDoor.Ms
