/- What a worker does with a number: side.Moves' and side.Buckets' closures. -/
import Derived.Test.YtjeicikflkjacaaGreatDoorM10
import Derived.Test.YtjeicikflkjacaaGreatDoorM1
import Derived.Test.YtjeicikflkjacaaGreatDoorM5
import Derived.Test.YtjeicikflkjacaaGreatDoorM0
import Derived.Maps.AppendAt
import Derived.Test.YtjeicikflkjacaaGreatDoorMsZ
import Derived.Deep.RegionHeld3
namespace Go.Proofs.YtjeicikflkjacaaGreatDoor
open Go.RowKit
set_option maxHeartbeats 2000000 in
theorem work_moves (ba bl bs bR i N cap:Nat)(va vb:Value)(n:Int)(Q:Value→Value→World→Prop)(w:World)(ha:w.cell? ⟨ba,0,none⟩=some va)(hl:w.cell? ⟨bl,0,none⟩=some (.slice (some ⟨bR,0,none⟩) N cap))(hb:w.cell? ⟨bR,i,none⟩=some vb)(hs:w.cell? ⟨bs,0,none⟩=some (.int .i64 n))(hi:i<N)
  (hc:∀W,Below w.heap.size w W→Calls Tryz.prog 11 #[va,vb,.int .i64 n] W fun e w'=>∃x ev,e=.returned (.tuple #[x,ev])∧Q x ev w'∧Below w.heap.size w w') :
  Calls Tryz.prog 20 #[.int .i64 (i:Nat),.pointer (some ⟨ba,0,none⟩),.pointer (some ⟨bl,0,none⟩),.pointer (some ⟨bs,0,none⟩)] w fun e w'=>∃x ev,e=.returned (.tuple #[x,ev])∧Q x ev w'∧Below w.heap.size w w':=by
 have HC:Hid (∀W,Below w.heap.size w W→Calls Tryz.prog 11 #[va,vb,.int .i64 n] W fun e w'=>∃x ev,e=.returned (.tuple #[x,ev])∧Q x ev w'∧Below w.heap.size w w'):=hc
 have HK:Hid (∀W',Below w.heap.size w W'→Below w.heap.size w W'∧W'.cell? ⟨ba,0,none⟩=some va∧W'.cell? ⟨bl,0,none⟩=some (.slice (some ⟨bR,0,none⟩) N cap)∧W'.cell? ⟨bR,i,none⟩=some vb∧W'.cell? ⟨bs,0,none⟩=some (.int .i64 n)):=fun W' h=>⟨h,below_cell h ha,below_cell h hl,below_cell h hb,below_cell h hs⟩
 have hii:(i:Int)<(N:Int):=by omega
 clear hc
 go_enter Tryz.func20,Tryz.ntmps20
 go_wp2_with fail
 go_region_held3 (fun W'=>Below w.heap.size w W'∧W'.cell? ⟨ba,0,none⟩=some va∧W'.cell? ⟨bl,0,none⟩=some (.slice (some ⟨bR,0,none⟩) N cap)∧W'.cell? ⟨bR,i,none⟩=some vb∧W'.cell? ⟨bs,0,none⟩=some (.int .i64 n))
  (first|exact HK.out _ (by assumption)|exact HK.out _ (below_drewN (Below.refl _ _) 1)|exact HK.out _ (Below.refl _ _))
  (first|(go_at_call 11;refine (HC.out _ (by first|assumption|exact Below.refl _ _|exact below_drewN (Below.refl _ _) 1)).mono ?_;rintro e wz ⟨x,ev,rfl,hq,hbz⟩))
 all_goals
  go_wp2
  go_ret2
  exact⟨_,_,rfl,hq,hbz⟩
end Go.Proofs.YtjeicikflkjacaaGreatDoor

/- What is shared with workers: rows, and how much of each is known. -/
set_option linter.unusedVariables false
namespace Go.Proofs.YtjeicikflkjacaaGreatDoor.Ms
open Go Go.Conc Go.Conc.Lib Go.ConcN
open Par (Cx LocIn Bij VR WR AR OR idB shutW Work)
open Go.RowKit
def tk:List (Nat × Nat)→Nat→Nat
 | [],_=>0
 | (c,n) :: T,b=>if c=b then max n (tk T b) else tk T b
def inT (T:List (Nat × Nat))(b:Nat):Prop:=∃n,(b,n)∈T
theorem tk_le {T:List (Nat × Nat)}{b n:Nat}(h:(b,n)∈T):n≤tk T b:=by
 induction T with
 | nil=>cases h
 | cons p T ih =>
  obtain⟨c,m⟩:=p
  simp only[tk]
  rcases List.mem_cons.1 h with e|h
  ·cases e
   rw[if_pos rfl]
   exact Nat.le_max_left _ _
  ·have:=ih h
   split
   ·exact Nat.le_trans this (Nat.le_max_right _ _)
   ·exact this
theorem tk_lt {T:List (Nat × Nat)}{b i:Nat}(h:i<tk T b):∃n,(b,n)∈T∧i<n:=by
 induction T with
 | nil=>cases h
 | cons p T ih =>
  obtain⟨c,m⟩:=p
  simp only[tk] at h
  split at h
  ·rename_i e
   subst e
   rcases Nat.lt_or_ge i m with h1|h1
   ·exact⟨m,List.mem_cons_self,h1⟩
   ·obtain⟨n,h2,h3⟩:=ih (by omega)
    exact⟨n,List.mem_cons_of_mem _ h2,h3⟩
  ·obtain⟨n,h2,h3⟩:=ih h
   exact⟨n,List.mem_cons_of_mem _ h2,h3⟩
def Knows (Ok:Cx)(T:List (Nat × Nat))(w:World):Prop:=∀b n,(b,n)∈T→∃x e f,w.heap[b]?=some (.cells x e f)∧∀i u,i<n→x[i]?=some u→VR Ok (idB (inT T)).r u u
theorem knows_cl {Ok:Cx}{T:List (Nat × Nat)}{w:World}(h:Knows Ok T w){b:Nat}(hb:inT T b):(∃x e f,w.heap[b]?=some (.cells x e f))∧Par.Cl Ok (inT T) (fun b=>some (tk T b)) w b:=by
 obtain⟨n,hn⟩:=hb
 obtain⟨x,e,f,h1,h2⟩:=h b n hn
 refine⟨⟨x,e,f,h1⟩,_,h1,x,e,f,rfl,fun i u hi hu=>?_⟩
 obtain⟨m,hm,him⟩:=tk_lt hi
 obtain⟨x',e',f',h1',h2'⟩:=h b m hm
 rw[h1] at h1'
 cases h1'
 exact h2' i u him hu
theorem known_cell {T:List (Nat × Nat)}{W:World}{b n i:Nat}(h:(b,n)∈T)(hi:i<n)(τ:Nat→Question→Nat)(d:Nat):(Par.on (shutW (fun b=>some (tk T b)) W) τ d).cell? ⟨b,i,none⟩=W.cell? ⟨b,i,none⟩:=by
 have:(Par.on (shutW (fun b=>some (tk T b)) W) τ d).cell? ⟨b,i,none⟩=(shutW (fun b=>some (tk T b)) W).cell? ⟨b,i,none⟩:=rfl
 rw[this]
 refine Par.shut_cell W ⟨b,i,none⟩ fun m hm=>?_
 cases hm
 have:=tk_le h
 show i<tk T b
 omega
def Row0 (w:World)(v:Value)(xs:List ByteArray):Prop:=(v=.slice none 0 0∧xs=[])∨∃g cap cur e f,v=.slice (some ⟨g,0,none⟩) xs.length cap∧xs.length≤cap∧w.heap[g]?=some (.cells cur e f)∧∀k (h:k<xs.length),cur[k]?=some (.string xs[k])
theorem row0_of_owns {w:World}{base n:Nat}{v:Value}{e:TypeId}{xs:List ByteArray}(h:w.ownsRow base e 1 v n (xs.map Value.string)):Row0 w v xs:=by
 obtain⟨hl,⟨rfl,rfl⟩|⟨g,cap,cur,rfl,hbase,hb,hn,hm,hsz,ht⟩⟩:=h
 ·exact .inl ⟨rfl,by simpa using hl⟩
 ·have hl':xs.length=n:=by simpa using hl
  refine .inr ⟨g,cap,cur,e,(0,0),by rw[hl'],by omega,hb,fun k hk=>?_⟩
  have hk':(cur.toList.take (n*1))[k]?=some (.string xs[k]):=by rw[ht];simp[hk]
  rw[List.getElem?_take_of_lt (by omega)] at hk'
  simpa using hk'
def rowT:Value→List (Nat × Nat)
 | .slice (some a) l _=>[(a.block,l)]
 | _=>[]
theorem Row0.same {w w':World}{v:Value}{xs:List ByteArray}(h:Row0 w v xs)(hs:∀b n,(b,n)∈rowT v→w'.heap[b]?=w.heap[b]?):Row0 w' v xs:=by
 rcases h with h|⟨g,cap,cur,e,f,rfl,h1,h2,h3⟩
 ·exact .inl h
 ·exact .inr ⟨g,cap,cur,e,f,rfl,h1,by rw[hs g xs.length (by simp[rowT])];exact h2,h3⟩
theorem Row0.vr {Ok:Cx}{w:World}{v:Value}{xs:List ByteArray}(h:Row0 w v xs){S:Nat→Prop}(hS:∀b n,(b,n)∈rowT v→S b):VR Ok (idB S).r v v:=by
 rcases h with⟨rfl,rfl⟩|⟨g,cap,cur,e,f,rfl,h1,h2,h3⟩
 ·exact .snil 0 0
 ·exact .slice 0 none _ _ ⟨rfl,hS g xs.length (by simp[rowT])⟩
theorem Row0.knows {Ok:Cx}{w:World}{v:Value}{xs:List ByteArray}(h:Row0 w v xs){S:Nat→Prop}{b n:Nat}(hb:(b,n)∈rowT v):∃x e f,w.heap[b]?=some (.cells x e f)∧∀i u,i<n→x[i]?=some u→VR Ok (idB S).r u u:=by
 rcases h with⟨rfl,rfl⟩|⟨g,cap,cur,e,f,rfl,h1,h2,h3⟩
 ·cases hb
 ·simp only[rowT,List.mem_singleton,Prod.mk.injEq] at hb
  obtain⟨rfl,rfl⟩:=hb
  refine⟨cur,e,f,h2,fun i u hi hu=>?_⟩
  rw[h3 i hi] at hu
  cases hu
  exact .string _
theorem Row0.shut {T:List (Nat × Nat)}{W:World}{v:Value}{xs:List ByteArray}(h:Row0 W v xs)(hT:∀p∈rowT v,p∈T)(τ:Nat→Question→Nat)(d:Nat):Strs1 (Par.on (shutW (fun b=>some (tk T b)) W) τ d) v xs:=by
 rcases h with⟨rfl,rfl⟩|⟨g,cap,cur,e,f,rfl,h1,h2,h3⟩
 ·exact .inl ⟨rfl,.inl rfl⟩
 ·refine .inr ⟨g,0,cap,rfl,h1,fun k hk=>?_⟩
  rw[Nat.zero_add,known_cell (hT (g,xs.length) (by simp[rowT])) hk]
  simp only[World.cell?,h2]
  exact h3 k hk
end Go.Proofs.YtjeicikflkjacaaGreatDoor.Ms

/- The two works, as workers are asked for them. -/
set_option linter.unusedVariables false
namespace Go.Proofs.YtjeicikflkjacaaGreatDoor.Ms
open Go Go.Conc Go.Conc.Lib Go.ConcN
open Par (Cx LocIn Bij VR WR AR OR idB shutW Work)
open Go.RowKit
theorem errs5 {a:Nat→Addr}{w:World}(h:Errs a w):Errs5 a w:=⟨h.s1,h.s2,h.s3,h.s4,h.s5⟩
def MovFault (xs ys:List ByteArray)(n:Int)(c:Nat)(pl:Int):Prop:=(TabFault xs n c pl∧c≠0)∨((∃p,TabFault xs n 0 p)∧TabFault ys n c pl)
def MovQ (a:Nat→Addr)(xs ys:List ByteArray)(n:Int)(x ev:Value)(w:World):Prop:=∃c pl,MovFault xs ys n c pl∧((c=0∧(∃m:Nat,n=m∧x=.int .i64 (mv xs ys m m:Nat))∧ev=.nilIface)∨(c≠0∧x=.int .i64 0∧ErrIs a w c pl ev))
theorem moves_q (a:Nat→Addr)(va vb:Value)(xs ys:List ByteArray)(n:Int)(w:World)(he:Errs5 a w)(hv:Strs1 w va xs)(hv2:Strs1 w vb ys)(hn:-9223372036854775808≤n∧n≤9223372036854775807)(hs1:∀k (h:k<xs.length),(xs[k]).size≤300)(hs2:∀k (h:k<ys.length),(ys[k]).size≤300)(hm1:xs.length<1000000)(hm2:ys.length<1000000) :
  Calls Tryz.prog 11 #[va,vb,.int .i64 n] w fun e w'=>∃x ev,e=.returned (.tuple #[x,ev])∧MovQ a xs ys n x ev w'∧Below w.heap.size w w':=by
 obtain⟨c,pl,hf⟩:=tabFault_ex xs n
 by_cases hc:c=0
 ·subst hc
  obtain⟨rfl,h0,hf1,m,rfl,hp,h2,h5⟩:=tabFault_zero hf
  obtain⟨c2,pl2,hf2⟩:=tabFault_ex ys m
  by_cases hc2:c2=0
  ·subst hc2
   obtain⟨rfl,h0',hf1',_⟩:=tabFault_zero hf2
   exact (moves_good5 a va vb xs ys m w he hv hv2 h0 h0' hf1 hf1' hp h5 hs1 hs2).mono fun e w' ⟨h1,h2⟩=>⟨_,_,h1,⟨0,-1,.inr ⟨⟨_,hf⟩,hf2⟩,.inl ⟨rfl,⟨m,rfl,rfl⟩,rfl⟩⟩,h2⟩
  ·exact (moves_bad25 a va vb xs ys m w c2 pl2 he hv hv2 h0 hf1 hp h5 hs1 hf2 hc2 (fun k h=>Nat.le_trans (hs2 k h) (by omega)) hm2).mono fun e w' ⟨ev,h1,h2,h3⟩=>⟨_,ev,h1,⟨c2,pl2,.inr ⟨⟨_,hf⟩,hf2⟩,.inr ⟨hc2,rfl,h2⟩⟩,h3⟩
 ·exact (moves_bad15 a va vb xs n w c pl he hv hf hc hn (fun k h=>Nat.le_trans (hs1 k h) (by omega)) hm1).mono fun e w' ⟨ev,h1,h2,h3⟩=>⟨_,ev,h1,⟨c,pl,.inl ⟨hf,hc⟩,.inr ⟨hc,rfl,h2⟩⟩,h3⟩
def errT (a:Nat→Addr):List (Nat × Nat):=[(0,1),(1,1),(4,1),(2,1),(5,1),((a 1).block,0),((a 2).block,0),((a 3).block,0),((a 4).block,0),((a 5).block,0)]
theorem cell_row {w:World}{b i:Nat}{v:Value}(h:w.cell? ⟨b,i,none⟩=some v):∃x e f,w.heap[b]?=some (.cells x e f)∧x[i]?=some v:=by
 unfold World.cell? at h
 cases hb:w.heap[b]? with
 | none=>rw[hb] at h;simp at h
 | some o =>
  rw[hb] at h
  cases o with
  | cells x e f=>exact⟨x,e,f,rfl,by simpa using h⟩
  | _=>simp at h
theorem err_knows {Ok:Cx}{a:Nat→Addr}{w:World}(h:Errs a w){T:List (Nat × Nat)}(hT:∀p∈errT a,p∈T){b n:Nat}(hb:(b,n)∈errT a):∃x e f,w.heap[b]?=some (.cells x e f)∧∀i u,i<n→x[i]?=some u→VR Ok (idB (inT T)).r u u:=by
 have key:∀g j,1≤j→j≤5→w.cell? ⟨g,0,none⟩=some (.iface 179 (.pointer (some (a j))))→∃x e f,w.heap[g]?=some (.cells x e f)∧∀i u,i<1→x[i]?=some u→VR Ok (idB (inT T)).r u u:=fun g j h1 h5 hc=>by
  obtain⟨x,e,f,q1,q2⟩:=cell_row hc
  refine⟨x,e,f,q1,fun i u hi hu=>?_⟩
  obtain rfl:i=0:=by omega
  rw[q2] at hu
  cases hu
  refine .iface _ (.ptr _ _ ⟨rfl,0,hT _ ?_⟩)
  have:j=1∨j=2∨j=3∨j=4∨j=5:=by omega
  rcases this with rfl|rfl|rfl|rfl|rfl<;>simp[errT]
 have key2:∀j,j<9→∃x e f,w.heap[(a j).block]?=some (.cells x e f)∧∀i u,i<0→x[i]?=some u→VR Ok (idB (inT T)).r u u:=fun j hj=>by
  obtain⟨c,t,q⟩:=h.row j hj
  exact⟨c,t,_,q,fun i u hi=>absurd hi (Nat.not_lt_zero _)⟩
 simp only[errT,List.mem_cons,Prod.mk.injEq,List.not_mem_nil,or_false] at hb
 rcases hb with⟨rfl,rfl⟩|⟨rfl,rfl⟩|⟨rfl,rfl⟩|⟨rfl,rfl⟩|⟨rfl,rfl⟩|⟨rfl,rfl⟩|⟨rfl,rfl⟩|⟨rfl,rfl⟩|⟨rfl,rfl⟩|⟨rfl,rfl⟩
 ·exact key _ 1 (by omega) (by omega) h.s1
 ·exact key _ 2 (by omega) (by omega) h.s2
 ·exact key _ 3 (by omega) (by omega) h.s3
 ·exact key _ 4 (by omega) (by omega) h.s4
 ·exact key _ 5 (by omega) (by omega) h.s5
 ·exact key2 1 (by omega)
 ·exact key2 2 (by omega)
 ·exact key2 3 (by omega)
 ·exact key2 4 (by omega)
 ·exact key2 5 (by omega)
theorem err_gl {a:Nat→Addr}{x:Nat}(h:Par.wkGl x=true):(x,1)∈errT a:=by
 simp only[Par.wkGl,Par.wkG,List.contains_iff_mem,List.mem_cons,List.not_mem_nil,or_false] at h
 rcases h with rfl|rfl|rfl|rfl|rfl<;>simp[errT]
theorem err_shut {a:Nat→Addr}{W:World}(h:Errs5 a W){T:List (Nat × Nat)}(hT:∀p∈errT a,p∈T)(τ:Nat→Question→Nat)(d:Nat):Errs5 a (Par.on (shutW (fun b=>some (tk T b)) W) τ d):=by
 have key:∀g v,(g,1)∈errT a→W.cell? ⟨g,0,none⟩=some v→(Par.on (shutW (fun b=>some (tk T b)) W) τ d).cell? ⟨g,0,none⟩=some v:=fun g v hg hv=>by
  rw[known_cell (hT _ hg) (by omega)]
  exact hv
 exact⟨key _ _ (by simp[errT]) h.s1,key _ _ (by simp[errT]) h.s2,key _ _ (by simp[errT]) h.s3,key _ _ (by simp[errT]) h.s4,key _ _ (by simp[errT]) h.s5⟩
end Go.Proofs.YtjeicikflkjacaaGreatDoor.Ms

/- Tasks: table.Moves and jump.Bucket for workers. -/
set_option linter.unusedVariables false
namespace Go.Proofs.YtjeicikflkjacaaGreatDoor.Ms
open Go Go.Conc Go.Conc.Lib Go.ConcN
open Par (Cx LocIn Bij VR WR AR OR idB shutW Work)
open Go.RowKit
def Rows0 (w:World)(vl:Value)(N:Nat)(vb:Nat→Value):Prop:=(vl=.slice none 0 0∧N=0)∨∃g cap cur e f,vl=.slice (some ⟨g,0,none⟩) N cap∧w.heap[g]?=some (.cells cur e f)∧∀i,i<N→cur[i]?=some (vb i)
def movT (a:Nat→Addr)(ba bl bs:Nat)(va vl:Value)(N:Nat)(vb:Nat→Value):List (Nat × Nat):=(ba,1) :: (bl,1) :: (bs,1) :: (rowT va++(rowT vl++((List.range N).flatMap (fun i=>rowT (vb i))++errT a)))
structure MovIn (a:Nat→Addr)(w:World)(ba bl bs:Nat)(va vl:Value)(N:Nat)(vb:Nat→Value)(xs:List ByteArray)(ys:Nat→List ByteArray)(n:Int):Prop where
 er:Errs a w
 ca:w.cell? ⟨ba,0,none⟩=some va
 cl:w.cell? ⟨bl,0,none⟩=some vl
 cs:w.cell? ⟨bs,0,none⟩=some (.int .i64 n)
 sa:Row0 w va xs
 sl:Rows0 w vl N vb
 sb:∀i,i<N→Row0 w (vb i) (ys i)
structure MovSz (N:Nat)(xs:List ByteArray)(ys:Nat→List ByteArray)(n:Int):Prop where
 n:-9223372036854775808≤n∧n≤9223372036854775807
 x:∀k (h:k<xs.length),(xs[k]).size≤300
 y:∀i,i<N→∀k (h:k<(ys i).length),((ys i)[k]).size≤300
 lx:xs.length<1000000
 ly:∀i,i<N→(ys i).length<1000000
theorem cell_same {w w':World}{b i:Nat}(h:w'.heap[b]?=w.heap[b]?):w'.cell? ⟨b,i,none⟩=w.cell? ⟨b,i,none⟩:=by
 unfold World.cell?
 simp only[h]
section
variable {a:Nat→Addr} {w:World} {ba bl bs:Nat} {va vl:Value} {N:Nat} {vb:Nat→Value} {xs:List ByteArray} {ys:Nat→List ByteArray} {n:Int}
theorem mov_er {p:Nat × Nat}(h:p∈errT a):p∈movT a ba bl bs va vl N vb:=by simp[movT,h]
theorem mov_va {p:Nat × Nat}(h:p∈rowT va):p∈movT a ba bl bs va vl N vb:=by simp[movT,h]
theorem mov_vl {p:Nat × Nat}(h:p∈rowT vl):p∈movT a ba bl bs va vl N vb:=by simp[movT,h]
theorem mov_vb {p:Nat × Nat}{i:Nat}(hi:i<N)(h:p∈rowT (vb i)):p∈movT a ba bl bs va vl N vb:=by
 simp only[movT,List.mem_cons,List.mem_append,List.mem_flatMap,List.mem_range]
 exact .inr (.inr (.inr (.inr (.inr (.inl ⟨i,hi,h⟩)))))
theorem MovIn.knows {Ok:Cx}(h:MovIn a w ba bl bs va vl N vb xs ys n):Knows Ok (movT a ba bl bs va vl N vb) w:=by
 intro b m hb
 have one:∀g v,w.cell? ⟨g,0,none⟩=some v→VR Ok (idB (inT (movT a ba bl bs va vl N vb))).r v v→∃x e f,w.heap[g]?=some (.cells x e f)∧∀i u,i<1→x[i]?=some u→VR Ok (idB (inT (movT a ba bl bs va vl N vb))).r u u:=fun g v hc hv=>by
  obtain⟨x,e,f,q1,q2⟩:=cell_row hc
  refine⟨x,e,f,q1,fun i u hi hu=>?_⟩
  obtain rfl:i=0:=by omega
  rw[q2] at hu
  cases hu
  exact hv
 simp only[movT,List.mem_cons,List.mem_append,List.mem_flatMap,List.mem_range,Prod.mk.injEq] at hb
 rcases hb with⟨rfl,rfl⟩|⟨rfl,rfl⟩|⟨rfl,rfl⟩|hb|hb|⟨i,hi,hb⟩|hb
 ·exact one _ _ h.ca (h.sa.vr fun b n hb=>⟨n,mov_va hb⟩)
 ·refine one _ _ h.cl ?_
  rcases h.sl with⟨rfl,_⟩|⟨g,cap,cur,e,f,rfl,_⟩
  ·exact .snil 0 0
  ·exact .slice 0 none _ _ ⟨rfl,N,mov_vl (by simp[rowT])⟩
 ·exact one _ _ h.cs (.int _ _)
 ·exact h.sa.knows hb
 ·rcases h.sl with⟨rfl,_⟩|⟨g,cap,cur,e,f,rfl,q1,q2⟩
  ·cases hb
  ·simp only[rowT,List.mem_singleton,Prod.mk.injEq] at hb
   obtain⟨rfl,rfl⟩:=hb
   refine⟨cur,e,f,q1,fun i u hi hu=>?_⟩
   rw[q2 i hi] at hu
   cases hu
   exact (h.sb i hi).vr fun b n hb=>⟨n,mov_vb hi hb⟩
 ·exact (h.sb i hi).knows hb
 ·exact err_knows h.er (fun p hp=>mov_er hp) hb
theorem MovIn.errs5 (h:MovIn a w ba bl bs va vl N vb xs ys n){W:World}(hs:∀b,inT (movT a ba bl bs va vl N vb) b→W.heap[b]?=w.heap[b]?):Errs5 a W:=by
 have key:∀g v,(g,1)∈errT a→w.cell? ⟨g,0,none⟩=some v→W.cell? ⟨g,0,none⟩=some v:=fun g v hg hv=>by
  rw[cell_same (hs g ⟨1,mov_er hg⟩)]
  exact hv
 exact⟨key _ _ (by simp[errT]) h.er.s1,key _ _ (by simp[errT]) h.er.s2,key _ _ (by simp[errT]) h.er.s3,key _ _ (by simp[errT]) h.er.s4,key _ _ (by simp[errT]) h.er.s5⟩
end
def movR (a:Nat→Addr)(xs:List ByteArray)(ys:Nat→List ByteArray)(n:Int)(i:Nat)(u:Value)(w:World):Prop:=∃x ev,u=.tuple #[x,ev]∧MovQ a xs (ys i) n x ev w
theorem tasks_moves {J:Job}(G:Geo J){a:Nat→Addr}{ba bl bs:Nat}{va vl:Value}{vb:Nat→Value}{xs:List ByteArray}{ys:Nat→List ByteArray}{n:Int}(hfw:J.k.fw=20)(hcap:J.k.cap=#[.pointer (some ⟨ba,0,none⟩),.pointer (some ⟨bl,0,none⟩),.pointer (some ⟨bs,0,none⟩)])
  (hS:J.S=inT (movT a ba bl bs va vl J.N vb)) (hTk:J.Tk=fun b=>some (tk (movT a ba bl bs va vl J.N vb) b)) (hR:J.R=movR a xs ys n) (hg:PP.globals.size≤J.base) (h:MovIn a J.w0 ba bl bs va vl J.N vb xs ys n) (z:MovSz J.N xs ys n):Tasks J:=by
 refine⟨?_,?_,?_,?_,hg,?_,?_,?_,?_⟩
 ·rw[hfw]
  exact⟨_,Tryz.func20,by decide +kernel,by decide +kernel⟩
 ·rw[hfw]
  decide +kernel
 ·rw[hR]
  rintro i u w τ d ⟨x,ev,rfl,c,pl,h1,h2⟩
  exact⟨x,ev,rfl,c,pl,h1,h2⟩
 ·intro b hb
  rw[hS] at hb ⊢
  rw[hTk]
  exact knows_cl h.knows hb
 ·intro x hx
  rw[hS]
  exact⟨1,mov_er (err_gl hx)⟩
 ·intro i hi
  rw[hcap,hS]
  refine⟨rfl,fun k u u' h1 h2=>?_⟩
  rw[h1] at h2
  cases h2
  have hk:k<4:=by simpa using (Array.getElem?_eq_some_iff.1 h1).1
  have:k=0∨k=1∨k=2∨k=3:=by omega
  rcases this with rfl|rfl|rfl|rfl
  ·obtain rfl:Value.int .i64 (i:Nat)=u:=by simpa using h1
   exact .int _ _
  ·obtain rfl:Value.pointer (some ⟨ba,0,none⟩)=u:=by simpa using h1
   exact .ptr _ _ ⟨rfl,1,by simp[movT]⟩
  ·obtain rfl:Value.pointer (some ⟨bl,0,none⟩)=u:=by simpa using h1
   exact .ptr _ _ ⟨rfl,1,by simp[movT]⟩
  ·obtain rfl:Value.pointer (some ⟨bs,0,none⟩)=u:=by simpa using h1
   exact .ptr _ _ ⟨rfl,1,by simp[movT]⟩
 ·intro i hi W hW τ d
  have hs:∀b,inT (movT a ba bl bs va vl J.N vb) b→W.heap[b]?=J.w0.heap[b]?:=fun b hb=>by
   obtain⟨g1,g2,g3,g4,g5⟩:=G.sS b (by rw[hS];exact hb)
   exact hW.old b g1 g2 g3 g4
  have one:∀g v,(g,1)∈movT a ba bl bs va vl J.N vb→J.w0.cell? ⟨g,0,none⟩=some v→(Par.on (shutW (fun b=>some (tk (movT a ba bl bs va vl J.N vb) b)) W) τ d).cell? ⟨g,0,none⟩=some v:=fun g v hg hv=>by
   rw[known_cell hg (by omega),cell_same (hs g ⟨1,hg⟩)]
   exact hv
  rw[hfw,hcap,hTk,hR]
  rcases h.sl with⟨_,q⟩|⟨bR,cap,cur,e,f,rfl,q1,q2⟩
  ·omega
  have hE:=err_shut (h.errs5 hs) (T:=movT a ba bl bs va (.slice (some ⟨bR,0,none⟩) J.N cap) J.N vb) (fun p hp=>mov_er hp) τ d
  have hA:=(h.sa.same (w':=W) fun b m hb=>hs b ⟨m,mov_va hb⟩).shut (T:=movT a ba bl bs va (.slice (some ⟨bR,0,none⟩) J.N cap) J.N vb) (fun p hp=>mov_va hp) τ d
  have hB:=((h.sb i hi).same (w':=W) fun b m hb=>hs b ⟨m,mov_vb hi hb⟩).shut (T:=movT a ba bl bs va (.slice (some ⟨bR,0,none⟩) J.N cap) J.N vb) (fun p hp=>mov_vb hi hp) τ d
  have hc:=work_moves ba bl bs bR i J.N cap va (vb i) n (MovQ a xs (ys i) n) _ (one ba va (by simp[movT]) h.ca) (one bl _ (by simp[movT]) h.cl) (by
   rw[known_cell (n:=J.N) (mov_vl (by simp[rowT])) hi,cell_same (hs bR ⟨J.N,mov_vl (by simp[rowT])⟩)]
   simp only[World.cell?,q1]
   exact q2 i hi) (one bs _ (by simp[movT]) h.cs) hi fun W' hb=>(moves_q a va (vb i) xs (ys i) n W' (hE.later hb) (hA.later hb) (hB.later hb) z.n z.x (z.y i hi) z.lx (z.ly i hi)).mono fun e w' ⟨x,ev,r1,r2,r3⟩=>⟨x,ev,r1,r2,below_then hb r3⟩
  exact hc.mono fun e w' ⟨x,ev,r1,r2,r3⟩=>⟨_,r1,x,ev,rfl,r2⟩
 ·rw[hR]
  rintro i u v ⟨x,ev,rfl,c,pl,h1,⟨rfl,⟨m,rfl,rfl⟩,rfl⟩|⟨h2,rfl,h3⟩⟩
  ·exact⟨_,_,rfl,.inl rfl⟩
  ·refine⟨_,_,rfl,?_⟩
   rcases h3 with⟨_,_,rfl⟩|⟨j,_,_,⟨_,rfl⟩|⟨b,rfl,_⟩⟩
   ·exact .inl rfl
   ·exact .inr ⟨_,_,rfl⟩
   ·exact .inr ⟨_,_,rfl⟩
end Go.Proofs.YtjeicikflkjacaaGreatDoor.Ms

/- What came of a number, as the caller finds it. -/
set_option linter.unusedVariables false
namespace Go.Proofs.YtjeicikflkjacaaGreatDoor.Ms
open Go Go.Conc Go.Conc.Lib Go.ConcN
open Par (Cx LocIn Bij VR WR AR OR idB shutW Work)
open Go.RowKit
theorem vr_at {Ok:Cx}{β:Nat→Nat→Prop}{t:TypeId}{p:Addr}{e:Value}(h:VR Ok β (.iface t (.pointer (some p))) e):∃b',β p.block b'∧e=.iface t (.pointer (some ⟨b',p.off,p.spot⟩)):=by
 obtain⟨b,o,sp⟩:=p
 cases h with
 | iface _ h =>
  cases h with
  | ptr _ _ h=>exact⟨_,h,rfl⟩
theorem vr_same {Ok:Cx}{γ:Bij}{S:Nat→Prop}(hle:(idB S).le γ){t:TypeId}{p:Addr}{e:Value}(hS:S p.block)(h:VR Ok γ.r (.iface t (.pointer (some p))) e):e=.iface t (.pointer (some p)):=by
 obtain⟨b',h1,rfl⟩:=vr_at h
 obtain rfl:=γ.fn h1 (hle _ _ ⟨rfl,hS⟩)
 rfl
theorem wr_cell {Ok:Cx}{γ:Bij}{E:Nat}{v w:World}(h:WR Ok E γ v w){b b' i:Nat}(hb:γ.r b b'){u:Value}(hu:v.cell? ⟨b,i,none⟩=some u):∃u',w.cell? ⟨b',i,none⟩=some u'∧VR Ok γ.r u u':=by
 obtain⟨x,e,f,q1,q2⟩:=cell_row hu
 obtain⟨o,o',h1,h2,h3⟩:=h.obj b b' hb
 rw[q1] at h1
 cases h1
 have hi:=(Array.getElem?_eq_some_iff.1 q2).1
 cases h3 with
 | @cells _ x' _ _ _ hx _ =>
  have hi':i<x'.size:=by rw[←hx.1];exact hi
  refine⟨x'[i],?_,hx.2 i u x'[i] q2 (Array.getElem?_eq_getElem hi')⟩
  simp only[World.cell?,h2]
  exact Array.getElem?_eq_getElem hi'
 | @pre _ x' _ _ _ hs hx _ =>
  have hi':i<x'.size:=by omega
  refine⟨x'[i],?_,hx i u x'[i] q2 (Array.getElem?_eq_getElem hi')⟩
  simp only[World.cell?,h2]
  exact Array.getElem?_eq_getElem hi'
theorem cell_to {w W:World}{b i:Nat}{v:Value}(h:w.cell? ⟨b,i,none⟩=some v)(hW:∀x e f,w.heap[b]?=some (.cells x e f)→W.heap[b]?=some (.cells x e f)):W.cell? ⟨b,i,none⟩=some v:=by
 obtain⟨x,e,f,q1,q2⟩:=cell_row h
 simp only[World.cell?,hW x e f q1]
 exact q2
theorem err_there {Ok:Cx}{γ:Bij}{E:Nat}{v w W:World}(h:WR Ok E γ v w)(hW:∀b b' x e f,γ.r b b'→w.heap[b']?=some (.cells x e f)→W.heap[b']?=some (.cells x e f)){S:Nat→Prop}(hle:(idB S).le γ){a:Nat→Addr}{c:Nat}{pl:Int}{ev e:Value}(hS:∀i,c=i+1→S (a i).block)(he:ErrIs a v c pl ev)(hv:VR Ok γ.r ev e):ErrIs a W c pl e:=by
 rcases he with⟨rfl,rfl,rfl⟩|⟨i,hi,rfl,⟨rfl,rfl⟩|⟨b,rfl,h0,h1⟩⟩
 ·cases hv
  exact .inl ⟨rfl,rfl,rfl⟩
 ·exact .inr ⟨i,hi,rfl,.inl ⟨rfl,vr_same hle (hS i rfl) hv⟩⟩
 ·obtain⟨b',hb,rfl⟩:=vr_at hv
  obtain⟨u0,q0,r0⟩:=wr_cell h hb h0
  obtain⟨u1,q1,r1⟩:=wr_cell h hb h1
  cases r0
  have:=vr_same hle (hS i rfl) r1
  subst this
  exact .inr ⟨i,hi,rfl,.inr ⟨b',rfl,cell_to q0 fun x e f=>hW b b' x e f hb,cell_to q1 fun x e f=>hW b b' x e f hb⟩⟩
theorem vr_two {Ok:Cx}{β:Nat→Nat→Prop}{x ev y e:Value}(h:VR Ok β (.tuple #[x,ev]) (.tuple #[y,e])):VR Ok β x y∧VR Ok β ev e:=by
 cases h with
 | tuple _ hxx=>exact⟨hxx 0 x y (by simp) (by simp),hxx 1 ev e (by simp) (by simp)⟩
theorem movFault_code {xs ys:List ByteArray}{n:Int}{c:Nat}{pl:Int}(h:MovFault xs ys n c pl)(hc:c≠0):2≤c∧c≤6:=by
 have key:∀zs,TabFault zs n c pl→2≤c∧c≤6:=fun zs h=>by
  rcases h with⟨_,rfl,_⟩|⟨_,h,_⟩|⟨_,_,h,_⟩
  ·omega
  ·rcases h with⟨_,rfl,_⟩|⟨_,i,_,_,_,⟨_,rfl⟩|⟨_,_,rfl⟩⟩|⟨_,_,rfl,_⟩<;>omega
  ·rcases h with⟨_,rfl⟩|⟨m,_,_,_,⟨_,rfl⟩|⟨_,rfl⟩⟩<;>omega
 rcases h with⟨h,_⟩|⟨_,h⟩<;>exact key _ h
theorem moved {J:Job}{own:Nat→Nat}{w:World}{i:Nat}{k:Int}{e:Value}{a:Nat→Addr}{xs:List ByteArray}{ys:Nat→List ByteArray}{n:Int}(hR:J.R=movR a xs ys n)(hS:∀j,1≤j→j≤5→J.S (a j).block)(D:Dn J own w i k e){W:World}(hW:∀b x e f,J.S b∨J.base≤b→w.heap[b]?=some (.cells x e f)→W.heap[b]?=some (.cells x e f)):MovQ a xs (ys i) n (.int .i64 k) e W:=by
 obtain⟨_,γ,u,v,h1,h2,h3,h4,h5⟩:=D
 rw[hR] at h1
 obtain⟨x,ev,rfl,c,pl,hf,h⟩:=h1
 obtain⟨v1,v2⟩:=vr_two h2
 refine⟨c,pl,hf,?_⟩
 rcases h with⟨rfl,⟨m,rfl,rfl⟩,rfl⟩|⟨hc,rfl,he⟩
 ·cases v1;cases v2
  exact .inl ⟨rfl,⟨m,rfl,rfl⟩,rfl⟩
 ·cases v1
  refine .inr ⟨hc,rfl,err_there h3 (fun p b x e f hb=>hW b x e f (by rcases h4 p b hb with⟨_,h⟩|⟨h,_⟩<;>simp[h])) h5 (fun j hj=>?_) he v2⟩
  have:=movFault_code hf hc
  exact hS j (by omega) (by omega)
end Go.Proofs.YtjeicikflkjacaaGreatDoor.Ms

/- withoutPlace. -/
namespace Go.Proofs.YtjeicikflkjacaaGreatDoor
open Go.RowKit
set_option maxHeartbeats 1000000 in
theorem wp_fault (a:Nat→Addr)(i:Nat)(pb:Nat)(w:World)(he:Errs a w)(h1:w.cell? ⟨pb,1,none⟩=some (.iface 179 (.pointer (some (a i))))) :
  Calls Tryz.prog 32 #[.iface 66 (.pointer (some ⟨pb,0,none⟩))] w fun e w'=>e=.returned (.iface 179 (.pointer (some (a i))))∧Below w.heap.size w w':=by
 have HA:Hid (Calls Tryz.prog 38 #[.iface 66 (.pointer (some ⟨pb,0,none⟩)),.iface 78 (.pointer (some ⟨w.heap.size,0,none⟩))] (w.alloc (.cells #[.pointer none] 66)) fun ev w'=>ev=.returned (.bool true)∧Below w.heap.size w w'∧w'.cell? ⟨w.heap.size,0,none⟩=some (.pointer (some ⟨pb,0,none⟩))∧w.heap.size<w'.heap.size):=by
  refine (as_hit ⟨pb,0,none⟩ ⟨w.heap.size,0,none⟩ (.pointer none) (w.alloc (.cells #[.pointer none] 66)) (below_cell ((Below.refl _ _).alloc (Nat.le_refl _) _) he.handle) (by simp) (by simp)).mono ?_
  rintro ev w' ⟨rfl,rfl⟩
  refine⟨rfl,(((((Below.refl _ _).alloc (Nat.le_refl _) _).alloc (by simp) _).alloc (by simp;omega) _).alloc (by simp;omega) _).alloc (by simp;omega) _ |>.setCell (Nat.le_refl _) _,?_,by simp;omega⟩
  exact World.cell?_setCell_same' _ _ _ (by
   rw[World.cell?_alloc_lt _ _ _ (by simp;omega),World.cell?_alloc_lt _ _ _ (by simp;omega),World.cell?_alloc_lt _ _ _ (by simp;omega),World.cell?_alloc_lt _ _ _ (by simp)];simp)
 go_enter Tryz.func32,Tryz.ntmps32
 go_wp2_with fail
 refine HA.out.mono ?_
 rintro e w1 ⟨rfl,hb1,c1,hs1⟩
 have c2:=below_cell hb1 h1
 go_wp2
 go_ret
 exact⟨rfl,hb1⟩
set_option maxHeartbeats 1000000 in
theorem wp_sent (a:Nat→Addr)(i:Nat)(w:World)(he:Errs a w) :
  Calls Tryz.prog 32 #[.iface 179 (.pointer (some (a i)))] w fun e w'=>e=.returned (.iface 179 (.pointer (some (a i))))∧Below w.heap.size w w':=by
 have HA:Hid (Calls Tryz.prog 38 #[.iface 179 (.pointer (some (a i))),.iface 78 (.pointer (some ⟨w.heap.size,0,none⟩))] (w.alloc (.cells #[.pointer none] 66)) fun ev w'=>ev=.returned (.bool false)∧Below w.heap.size w w'):=by
  refine (as_miss (a i) ⟨w.heap.size,0,none⟩ (w.alloc (.cells #[.pointer none] 66)) (below_cell ((Below.refl _ _).alloc (Nat.le_refl _) _) he.handle)).mono ?_
  rintro ev w' ⟨rfl,rfl⟩
  exact⟨rfl,((((Below.refl _ _).alloc (Nat.le_refl _) _).alloc (by simp) _).alloc (by simp;omega) _).alloc (by simp;omega) _⟩
 go_enter Tryz.func32,Tryz.ntmps32
 go_wp2_with fail
 refine HA.out.mono ?_
 rintro e w1 ⟨rfl,hb1⟩
 go_wp2
 go_ret
 exact⟨rfl,hb1⟩
theorem without_any (a:Nat→Addr)(c:Nat)(pl:Int)(v:Value)(w:World)(he:Errs a w)(hc:c≠0)(h:ErrIs a w c pl v) :
  Calls Tryz.prog 32 #[v] w fun e w'=>e=.returned (.iface 179 (.pointer (some (a (c - 1)))))∧Below w.heap.size w w':=by
 rcases h with⟨rfl,_⟩|⟨i,hi,rfl,⟨_,rfl⟩|⟨b,rfl,h0,h1⟩⟩
 ·exact absurd rfl hc
 ·exact wp_sent a i w he
 ·exact wp_fault a i b w he h1
end Go.Proofs.YtjeicikflkjacaaGreatDoor
