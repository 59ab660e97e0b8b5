/- The ring of points, pure: rotated it is sorted from a place on; different hosts in order; what goes, what comes. -/
import Derived.Test.YtfhmfjcpggddkaaGreatDoorM3
import Derived.Test.YtfhmfjcpggddkaaGreatDoorM4
import Derived.Test.YtfhmfjcpggddkaaGreatDoorM2
import Derived.Below
import Derived.BigQuiet
import Derived.Deep.QuietTactic
import Derived.Laws.StructEq
import Derived.Laws.Strings
import Derived.Deep.AppendLies
namespace Go.Proofs.YtfhmfjcpggddkaaGreatDoor
namespace Lh
abbrev Pt:=Nat × ByteArray
def bl (s:ByteArray):List UInt8:=s.data.toList
theorem bl_inj {a b:ByteArray}(h:bl a=bl b):a=b:=ByteArray.ext (Array.toList_inj.1 h)
def leF (f:Nat)(a b:Pt):Prop:=(a.1<f→b.1<f)∧((b.1<f→a.1<f)→a.1≤b.1∧(a.1=b.1→bl a.2≤bl b.2))
theorem leF_antisymm {f:Nat}{a b:Pt}(h:leF f a b)(k:leF f b a):a=b:=by
 obtain⟨h1,h2⟩:=h
 obtain⟨k1,k2⟩:=k
 obtain⟨h3,h4⟩:=h2 k1
 obtain⟨k3,k4⟩:=k2 h1
 have e:a.1=b.1:=by omega
 exact Prod.ext e (bl_inj (List.le_antisymm (h4 e) (k4 e.symm)))
theorem leF_refl (f:Nat)(a:Pt):leF f a a:=⟨id,fun _=>⟨Nat.le_refl _,fun _=>List.le_refl _⟩⟩
theorem leF_trans {f:Nat}{a b c:Pt}(h:leF f a b)(k:leF f b c):leF f a c:=by
 obtain⟨h1,h2⟩:=h
 obtain⟨k1,k2⟩:=k
 refine⟨fun x=>k1 (h1 x),fun x=>?_⟩
 have hba:b.1<f→a.1<f:=fun y=>x (k1 y)
 have hcb:c.1<f→b.1<f:=fun y=>h1 (x y)
 obtain⟨h3,h4⟩:=h2 hba
 obtain⟨k3,k4⟩:=k2 hcb
 exact⟨by omega,fun e=>List.le_trans (h4 (by omega)) (k4 (by omega))⟩
def lessF (f:Nat)(a b:Pt):Bool :=
 if decide (a.1<f) != decide (b.1<f) then decide (b.1<f) else if a.1≠b.1 then decide (a.1<b.1) else decide (bl a.2<bl b.2)
theorem lessF_true {f:Nat}{a b:Pt}(h:lessF f a b=true):leF f a b:=by
 unfold lessF at h
 by_cases hx:a.1<f<;>by_cases hy:b.1<f<;>simp[hx,hy] at h
 ·by_cases e:a.1=b.1
  ·simp[e] at h
   exact⟨fun _=>hy,fun _=>⟨by omega,fun _=>List.le_of_lt h⟩⟩
  ·simp[e] at h
   exact⟨fun _=>hy,fun _=>⟨by omega,fun e'=>absurd e' e⟩⟩
 ·exact⟨fun h=>absurd h hx,fun h=>absurd (h hy) hx⟩
 ·by_cases e:a.1=b.1
  ·simp[e] at h
   exact⟨fun h=>absurd h hx,fun _=>⟨by omega,fun _=>List.le_of_lt h⟩⟩
  ·simp[e] at h
   exact⟨fun h=>absurd h hx,fun _=>⟨by omega,fun e'=>absurd e' e⟩⟩
theorem lessF_false {f:Nat}{a b:Pt}(h:lessF f a b=false):leF f b a:=by
 unfold lessF at h
 by_cases hx:a.1<f<;>by_cases hy:b.1<f<;>simp[hx,hy] at h
 ·by_cases e:a.1=b.1
  ·simp[e] at h
   exact⟨fun _=>hx,fun _=>⟨by omega,fun _=>h⟩⟩
  ·simp[e] at h
   exact⟨fun _=>hx,fun _=>⟨by omega,fun e'=>absurd e'.symm e⟩⟩
 ·exact⟨fun h=>absurd h hy,fun h=>absurd (h hx) hy⟩
 ·by_cases e:a.1=b.1
  ·simp[e] at h
   exact⟨fun h=>absurd h hy,fun _=>⟨by omega,fun _=>h⟩⟩
  ·simp[e] at h
   exact⟨fun h=>absurd h hy,fun _=>⟨by omega,fun e'=>absurd e'.symm e⟩⟩
/- the points of hosts -/
def pts1 (c:Nat)(s:ByteArray):List Pt:=(List.range c).map fun k=>(num s (1000+k),s)
def pts (c:Nat)(xs:List ByteArray):List Pt:=xs.flatMap (pts1 c)
theorem pts1_length (c:Nat)(s:ByteArray):(pts1 c s).length=c:=by simp[pts1]
theorem pts_length (c:Nat)(xs:List ByteArray):(pts c xs).length=xs.length*c:=by
 induction xs with
 | nil=>simp[pts]
 | cons x xs ih =>
  have:pts c (x :: xs)=pts1 c x++pts c xs:=rfl
  rw[this,List.length_append,pts1_length,ih,List.length_cons,Nat.add_mul,Nat.one_mul,Nat.add_comm]
/- rotated -/
def rot (f:Nat)(P:List Pt):List Pt:=(P.filter fun p=>decide (f≤p.1))++P.filter fun p=>!decide (f≤p.1)
def cut (f:Nat)(P:List Pt):Nat:=P.countP fun p=>!decide (f≤p.1)
theorem rot_perm (f:Nat)(P:List Pt):(rot f P).Perm P:=List.filter_append_perm _ _
theorem cut_le (f:Nat)(P:List Pt):cut f P≤P.length:=List.countP_le_length
theorem leF_of_zero {f:Nat}{a b:Pt}(h:leF 0 a b)(hx:a.1<f↔b.1<f):leF f a b:=by
 obtain⟨_,h2⟩:=h
 obtain⟨h3,h4⟩:=h2 (fun h=>absurd h (by omega))
 exact⟨hx.1,fun _=>⟨h3,h4⟩⟩
theorem rot_sorted {f:Nat}{P:List Pt}(h:P.Pairwise (leF 0)):(rot f P).Pairwise (leF f):=by
 unfold rot
 rw[List.pairwise_append]
 refine⟨?_,?_,?_⟩
 ·refine List.Pairwise.imp_of_mem ?_ (h.sublist List.filter_sublist)
  intro a b ha hb hab
  have h1:=(List.mem_filter.1 ha).2
  have h2:=(List.mem_filter.1 hb).2
  simp at h1 h2
  exact leF_of_zero hab (by omega)
 ·refine List.Pairwise.imp_of_mem ?_ (h.sublist List.filter_sublist)
  intro a b ha hb hab
  have h1:=(List.mem_filter.1 ha).2
  have h2:=(List.mem_filter.1 hb).2
  simp at h1 h2
  exact leF_of_zero hab (by omega)
 ·intro a ha b hb
  have h1:=(List.mem_filter.1 ha).2
  have h2:=(List.mem_filter.1 hb).2
  simp at h1 h2
  exact⟨fun h=>absurd h (by omega),fun h=>absurd (h h2) (by omega)⟩
theorem split_at {f:Nat}{P:List Pt}(h:P.Pairwise (leF 0)):P=(P.filter fun p=>!decide (f≤p.1))++P.filter fun p=>decide (f≤p.1):=by
 induction P with
 | nil=>rfl
 | cons p P ih =>
  rw[List.pairwise_cons] at h
  by_cases hp:f≤p.1
  ·have hall:∀q∈P,f≤q.1:=fun q hq=>by
    have:=((h.1 q hq).2 (fun h=>absurd h (by omega))).1
    omega
   have e1:P.filter (fun p=>!decide (f≤p.1))=[]:=by
    rw[List.filter_eq_nil_iff]
    intro q hq
    simpa using hall q hq
   have e2:P.filter (fun p=>decide (f≤p.1))=P:=by
    rw[List.filter_eq_self]
    intro q hq
    simpa using hall q hq
   simp[hp,e1,e2]
  ·have hp':p.1<f:=by omega
   have:=ih h.2
   rw[List.filter_cons,List.filter_cons]
   simp only[hp,decide_false,Bool.not_false,if_true,Bool.false_eq_true,if_false,List.cons_append]
   rw[←this]
theorem rot_cut {f:Nat}{P:List Pt}(h:P.Pairwise (leF 0)):rot f P=P.drop (cut f P)++P.take (cut f P):=by
 have hs:=split_at (f:=f) h
 have hc:cut f P=(P.filter fun p=>!decide (f≤p.1)).length:=List.countP_eq_length_filter
 have hd:P.drop (cut f P)=P.filter fun p=>decide (f≤p.1):=by
  rw[hc]
  generalize (P.filter fun p=>!decide (f≤p.1))=A at *
  generalize (P.filter fun p=>decide (f≤p.1))=B at *
  rw[hs]
  exact List.drop_left
 have ht:P.take (cut f P)=P.filter fun p=>!decide (f≤p.1):=by
  rw[hc]
  generalize (P.filter fun p=>!decide (f≤p.1))=A at *
  generalize (P.filter fun p=>decide (f≤p.1))=B at *
  rw[hs]
  exact List.take_left
 rw[hd,ht]
 rfl
def start (f:Nat)(P:List Pt):Nat:=if cut f P=P.length then 0 else cut f P
theorem start_lt {f:Nat}{P:List Pt}(h:0<P.length):start f P<P.length:=by
 unfold start
 have:=cut_le f P
 split<;>omega
theorem rot_length (f:Nat)(P:List Pt):(rot f P).length=P.length:=(rot_perm f P).length_eq
theorem rot_at {f:Nat}{P:List Pt}(h:P.Pairwise (leF 0)){i:Nat}(hi:i<P.length) :
  (rot f P)[i]'(by rw[rot_length];exact hi)=P[(start f P+i) % P.length]'(Nat.mod_lt _ (by omega)):=by
 have hle:=cut_le f P
 have e:(rot f P)[i]'(by rw[rot_length];exact hi)=(P.drop (cut f P)++P.take (cut f P))[i]'(by simp;omega):=by
  congr 1
  exact rot_cut h
 rw[e,List.getElem_append]
 unfold start
 by_cases hc:cut f P=P.length
 ·simp only[hc,if_true,List.length_drop]
  have hm:(0+i) % P.length=i:=by rw[Nat.zero_add,Nat.mod_eq_of_lt hi]
  simp only[hm]
  rw[dif_neg (by omega)]
  simp
 ·simp only[hc,if_false,List.length_drop]
  by_cases hlt:i<P.length - cut f P
  ·rw[dif_pos hlt,List.getElem_drop]
   congr 1
   rw[Nat.mod_eq_of_lt (by omega)]
  ·rw[dif_neg hlt,List.getElem_take]
   congr 1
   rw[Nat.mod_eq_sub_mod (by omega),Nat.mod_eq_of_lt (by omega)]
   omega
theorem sorted_unique {f:Nat}{A B:List Pt}(ha:A.Pairwise (leF f))(hb:B.Pairwise (leF f))(h:A.Perm B):A=B :=
 List.Perm.eq_of_pairwise (le:=leF f) (fun _ _ _ _ h k=>leF_antisymm h k) ha hb h
/- different hosts in order -/
instance memD (s:ByteArray) (out:List ByteArray):Decidable (s∈out) :=
 if h:mem s out=true then .isTrue (by
  unfold mem at h
  rw[List.any_eq_true] at h
  obtain⟨x,hx,e⟩:=h
  have:=of_decide_eq_true e
  exact this ▸ hx) else .isFalse (fun k=>h (mem_true k))
def dd (out:List ByteArray):List Pt→List ByteArray
 | []=>out
 | r :: R=>if r.2∈out then dd out R else dd (out++[r.2]) R
theorem dd_append (R S:List Pt):∀out,dd out (R++S)=dd (dd out R) S:=by
 induction R with
 | nil=>intro out;rfl
 | cons r R ih =>
  intro out
  simp only[List.cons_append,dd]
  split
  ·exact ih _
  ·exact ih _
theorem dd_prefix (R:List Pt):∀out,∃T,dd out R=out++T:=by
 induction R with
 | nil=>intro out;exact⟨[],by simp[dd]⟩
 | cons r R ih =>
  intro out
  simp only[dd]
  split
  ·exact ih _
  ·obtain⟨T,hT⟩:=ih (out++[r.2])
   exact⟨[r.2]++T,by rw[hT,List.append_assoc]⟩
theorem dd_nodup (R:List Pt):∀out,out.Nodup→(dd out R).Nodup:=by
 induction R with
 | nil=>intro out h;exact h
 | cons r R ih =>
  intro out h
  simp only[dd]
  split
  ·exact ih _ h
  ·rename_i hr
   refine ih _ (List.nodup_append.2 ⟨h,by simp,fun a ha b hb e=>?_⟩)
   simp at hb
   subst hb
   subst e
   exact hr ha
theorem dd_mem (R:List Pt):∀out s,s∈dd out R↔s∈out∨∃r∈R,r.2=s:=by
 induction R with
 | nil=>intro out s;simp[dd]
 | cons r R ih =>
  intro out s
  simp only[dd]
  split
  ·rename_i hr
   rw[ih]
   constructor
   ·rintro (h|⟨q,hq,e⟩)
    ·exact Or.inl h
    ·exact Or.inr ⟨q,List.mem_cons_of_mem _ hq,e⟩
   ·rintro (h|⟨q,hq,e⟩)
    ·exact Or.inl h
    ·rcases List.mem_cons.1 hq with rfl|hq
     ·exact Or.inl (e ▸ hr)
     ·exact Or.inr ⟨q,hq,e⟩
  ·rw[ih]
   constructor
   ·rintro (h|⟨q,hq,e⟩)
    ·rcases List.mem_append.1 h with h|h
     ·exact Or.inl h
     ·exact Or.inr ⟨r,List.mem_cons_self,(List.mem_singleton.1 h).symm⟩
    ·exact Or.inr ⟨q,List.mem_cons_of_mem _ hq,e⟩
   ·rintro (h|⟨q,hq,e⟩)
    ·exact Or.inl (List.mem_append_left _ h)
    ·rcases List.mem_cons.1 hq with rfl|hq
     ·exact Or.inl (List.mem_append_right _ (by simp[e]))
     ·exact Or.inr ⟨q,hq,e⟩
theorem dd_head {R:List Pt}(h:0<R.length):(dd [] R)[0]?=some (R[0]).2:=by
 match R,h with
 | r :: R,_ =>
  obtain⟨T,hT⟩:=dd_prefix R [r.2]
  simp[dd,hT]
theorem dd_length_le (R:List Pt):∀out,(dd out R).length≤out.length+R.length:=by
 induction R with
 | nil=>intro out;simp[dd]
 | cons r R ih =>
  intro out
  simp only[dd]
  split
  ·have:=ih out;simp;omega
  ·have:=ih (out++[r.2]);simp at this ⊢;omega
theorem nodup_len {xs ys:List ByteArray}(hx:xs.Nodup)(hs:∀s∈xs,s∈ys):xs.length≤ys.length:=by
 induction xs generalizing ys with
 | nil=>simp
 | cons x xs ih =>
  rw[List.nodup_cons] at hx
  have hy:=hs x List.mem_cons_self
  obtain⟨A,B,rfl⟩:=List.append_of_mem hy
  have:xs.length≤(A++B).length:=ih hx.2 (fun s hs'=>by
   have h1:=hs s (List.mem_cons_of_mem _ hs')
   have h2:s≠x:=fun e=>hx.1 (e ▸ hs')
   rcases List.mem_append.1 h1 with h|h
   ·exact List.mem_append_left _ h
   ·rcases List.mem_cons.1 h with h|h
    ·exact absurd h h2
    ·exact List.mem_append_right _ h)
  simp at this ⊢
  omega
theorem first_new {R:List Pt}{out:List ByteArray}(h:∃p∈R,¬p.2∈out):∃A r B,R=A++r :: B∧(∀q∈A,q.2∈out)∧¬r.2∈out:=by
 induction R with
 | nil=>obtain⟨p,hp,_⟩:=h;cases hp
 | cons x R ih =>
  by_cases hx:x.2∈out
  ·obtain⟨p,hp,hpo⟩:=h
   rcases List.mem_cons.1 hp with rfl|hp
   ·exact absurd hx hpo
   ·obtain⟨A,r,B,rfl,hA,hr⟩:=ih ⟨p,hp,hpo⟩
    refine⟨x :: A,r,B,rfl,?_,hr⟩
    intro q hq
    rcases List.mem_cons.1 hq with rfl|hq
    ·exact hx
    ·exact hA q hq
  ·exact⟨[],x,R,rfl,(fun q hq=>absurd hq List.not_mem_nil),hx⟩
theorem dd_next {f:Nat}{R:List Pt}(hs:R.Pairwise (leF f)){k:Nat}{p:Pt}(hp:p∈R)(hk:k≤(dd [] R).length)(hn:¬p.2∈(dd [] R).take k)(hmin:∀q∈R,¬q.2∈(dd [] R).take k→leF f p q) :
  k<(dd [] R).length∧(dd [] R).take (k+1)=(dd [] R).take k++[p.2]:=by
 obtain⟨A,r,B,hR,hA,hr⟩:=first_new ⟨p,hp,hn⟩
 have hrR:r∈R:=by rw[hR];simp
 have hpr:p=r:=by
  have h1:=hmin r hrR hr
  have h2:leF f r p:=by
   have hp':=hp
   rw[hR] at hp' hs
   rcases List.mem_append.1 hp' with h|h
   ·exact absurd (hA p h) hn
   ·rcases List.mem_cons.1 h with rfl|h
    ·exact leF_refl _ _
    ·exact (List.pairwise_cons.1 (List.pairwise_append.1 hs).2.1).1 p h
  exact leF_antisymm h1 h2
 subst hpr
 have hnod:=dd_nodup R [] List.nodup_nil
 have hpA:¬p.2∈dd [] A:=fun h=>by
  rcases (dd_mem A [] p.2).1 h with h|⟨q,hq,e⟩
  ·cases h
  ·exact hr (e ▸ hA q hq)
 have hD:∃T,dd [] R=dd [] A++p.2 :: T:=by
  rw[hR,dd_append]
  simp only[dd,hpA,if_false]
  obtain⟨T,hT⟩:=dd_prefix B (dd [] A++[p.2])
  exact⟨T,by rw[hT,List.append_assoc];rfl⟩
 obtain⟨T,hT⟩:=hD
 have hsub:∀s∈dd [] A,s∈(dd [] R).take k:=fun s h=>by
  rcases (dd_mem A [] s).1 h with h|⟨q,hq,e⟩
  ·cases h
  ·exact e ▸ hA q hq
 have hge:(dd [] A).length≤k:=by
  have:=nodup_len (dd_nodup A [] List.nodup_nil) hsub
  rw[List.length_take] at this
  omega
 have hle:k≤(dd [] A).length:=by
  refine Nat.le_of_not_lt fun h=>hn ?_
  rw[hT,List.mem_take_iff_getElem]
  exact⟨(dd [] A).length,by simp;omega,by simp⟩
 have hkk:k=(dd [] A).length:=by omega
 subst hkk
 rw[hT]
 refine⟨by simp,?_⟩
 rw[List.take_left,List.take_append,List.take_of_length_le (by omega)]
 simp
theorem dd_all {R:List Pt}{k:Nat}(hk:k≤(dd [] R).length)(h:∀q∈R,q.2∈(dd [] R).take k):k=(dd [] R).length:=by
 have hsub:∀s∈dd [] R,s∈(dd [] R).take k:=fun s hs=>by
  rcases (dd_mem R [] s).1 hs with hs|⟨q,hq,e⟩
  ·cases hs
  ·exact e ▸ h q hq
 have:=nodup_len (dd_nodup R [] List.nodup_nil) hsub
 rw[List.length_take] at this
 omega
def hostsF (f:Nat)(P:List Pt):List ByteArray:=dd [] (rot f P)
def IsRing (c:Nat)(xs:List ByteArray)(P:List Pt):Prop:=P.Perm (pts c xs)∧P.Pairwise (leF 0)
theorem ring_one {c:Nat}{xs:List ByteArray}{P Q:List Pt}(h:IsRing c xs P)(k:IsRing c xs Q):P=Q:=sorted_unique h.2 k.2 (h.1.trans k.1.symm)
theorem ring_len {c:Nat}{xs:List ByteArray}{P:List Pt}(h:IsRing c xs P):P.length=xs.length*c:=by rw[h.1.length_eq,pts_length]
theorem hosts_head {f:Nat}{P:List Pt}(h:P.Pairwise (leF 0))(hp:0<P.length):(hostsF f P)[0]?=some (P[start f P]'(start_lt hp)).2:=by
 unfold hostsF
 rw[dd_head (by rw[rot_length];exact hp),rot_at h hp]
 congr 2
 simp only[Nat.add_zero,Nat.mod_eq_of_lt (start_lt hp)]
theorem filter_erase {xs:List ByteArray}(hn:xs.Nodup){i:Nat}(hi:i<xs.length):xs.take i++xs.drop (i+1)=xs.filter fun s=>decide (s≠xs[i]):=by
 have e:xs=xs.take i++xs[i] :: xs.drop (i+1):=by rw[List.getElem_cons_drop,List.take_append_drop]
 have hn':=hn
 rw[e,List.nodup_append,List.nodup_cons] at hn'
 obtain⟨_,⟨h2,_⟩,h3⟩:=hn'
 generalize hw:xs[i]=w at *
 conv=>rhs;rw[e]
 rw[List.filter_append,List.filter_cons]
 simp only[ne_eq,not_true_eq_false,decide_false,Bool.false_eq_true,if_false]
 congr 1
 ·symm
  rw[List.filter_eq_self]
  intro a ha
  have:=h3 a ha w List.mem_cons_self
  simpa using this
 ·symm
  rw[List.filter_eq_self]
  intro a ha
  have:a≠w:=fun e=>h2 (e ▸ ha)
  simpa using this
end Lh
/- the order of the sort -/
def cfP (x y:Lh.Pt):Int:=if x.1<y.1 then -1 else if y.1<x.1 then 1 else if Lh.bl x.2<Lh.bl y.2 then -1 else if Lh.bl y.2<Lh.bl x.2 then 1 else 0
end Go.Proofs.YtfhmfjcpggddkaaGreatDoor
namespace Go.Proofs.YtfhmfjcpggddkaaGreatDoor
open Go.RowKit
theorem nodup_good {xs:List ByteArray}(h:∀j,∀hj:j<xs.length,Good xs j hj):xs.Nodup:=by
 refine List.pairwise_iff_getElem.2 fun i j hi hj hij e=>?_
 have h2:=(h j hj).2
 rw[Lh.mem_true] at h2
 ·cases h2
 ·rw[List.mem_take_iff_getElem]
  exact⟨i,by omega,e⟩
theorem fault0 {xs:List ByteArray}{pl:Int}(h:IsFault xs 0 pl):pl = -1∧xs.length≤12∧xs.Nodup:=by
 rcases h with⟨_,h,_⟩|⟨_,i,_,_,_,⟨_,h⟩|⟨_,_,h⟩⟩|⟨h,hg,_,h'⟩
 ·cases h
 ·cases h
 ·cases h
 ·exact⟨h',by omega,nodup_good hg⟩
theorem err0 {a:Nat→Addr}{W:World}{pl:Int}{v:Value}(h:ErrIs a W 0 pl v):v=.nilIface:=by
 rcases h with⟨_,_,h⟩|⟨i,_,h,_⟩
 ·exact h
 ·omega
theorem errPos {a:Nat→Addr}{W:World}{c:Nat}{pl:Int}{v:Value}(h:ErrIs a W c pl v)(hc:c≠0):∃t x,v=.iface t x:=by
 rcases h with⟨h,_⟩|⟨j,_,_,⟨_,h⟩|⟨b,h,_⟩⟩
 ·exact absurd h hc
 ·exact⟨_,_,h⟩
 ·exact⟨_,_,h⟩
theorem strsPos {w:World}{v:Value}{xs:List ByteArray}(h:Strs1 w v xs)(hp:0<xs.length):∃b o c,v=.slice (some ⟨b,o,none⟩) xs.length c∧∀k (h:k<xs.length),w.cell? ⟨b,o+k,none⟩=some (.string xs[k]):=by
 rcases h with⟨rfl,_⟩|⟨b,o,c,rfl,_,hc⟩
 ·cases hp
 ·exact⟨b,o,c,rfl,hc⟩
theorem owns_snoc {w:World}{base n:Nat}{v:Value}{e:TypeId}{out:List ByteArray}{s:ByteArray}(h:w.ownsRow base e 1 v n (out.map Value.string++[.string s])):w.ownsRow base e 1 v n ((out++[s]).map Value.string):=by simpa using h
theorem cells_one {w:World}{t:TypeId}(s:ByteArray):∀j u,[Value.string s][j]?=some u→(w.alloc (.cells #[.string s] t)).cell? ((⟨w.heap.size,0,none⟩:Addr).add j)=some u:=by
 intro j u hu
 match j,hu with
 | 0,hu=>simp at hu;subst hu;simp[Addr.add]
 | j+1,hu=>simp at hu
theorem fault_nm {xs:List ByteArray}{pl:Int}(h:IsFault xs 0 pl):∀s∈xs,Lh.isNm s=true:=by
 rcases h with⟨_,h,_⟩|⟨_,i,_,_,_,⟨_,h⟩|⟨_,_,h⟩⟩|⟨_,hg,_,_⟩
 ·cases h
 ·cases h
 ·cases h
 ·intro s hs
  obtain⟨j,hj,rfl⟩:=List.getElem_of_mem hs
  exact (hg j hj).1
theorem fault_of {xs:List ByteArray}(h12:xs.length≤12)(hn:∀s∈xs,Lh.isNm s=true)(hd:xs.Nodup):IsFault xs 0 (-1):=by
 refine Or.inr (Or.inr ⟨by omega,fun j hj=>⟨hn _ (List.getElem_mem hj),Lh.mem_false fun h=>?_⟩,rfl,rfl⟩)
 rw[List.mem_take_iff_getElem] at h
 obtain⟨i,hi,e⟩:=h
 exact List.pairwise_iff_getElem.1 hd i j (by omega) hj (by omega) e
structure Tur (F:Nat→Prop)(w w':World):Prop where
 os:w'.os=w.os
 tape:w'.tape=w.tape
 output:w'.output=w.output
 size:w.heap.size≤w'.heap.size
 block:∀k,k<w.heap.size→¬F k→w'.heap[k]?=w.heap[k]?
theorem Tur.below {F:Nat→Prop}{B:Nat}{w W W':World}(h:Tur F W W')(hF:∀k,F k→B≤k)(hb:Below B w W)(hB:B≤w.heap.size):Below B w W' :=
 ⟨h.os.trans hb.os,h.tape.trans hb.tape,h.output.trans hb.output,Nat.le_trans hb.size h.size,fun k hk=>(h.block k (by have:=hb.size;omega) (fun hf=>by have:=hF k hf;omega)).trans (hb.block k hk)⟩
theorem Tur.of_below {F:Nat→Prop}{w w':World}(h:Below w.heap.size w w'):Tur F w w':=⟨h.os,h.tape,h.output,h.size,fun k hk _=>h.block k hk⟩
theorem Tur.trans {F G:Nat→Prop}{w w1 w2:World}(h:Tur F w w1)(k:Tur G w1 w2)(hG:∀b,G b→F b∨w.heap.size≤b):Tur F w w2 :=
 ⟨k.os.trans h.os,k.tape.trans h.tape,k.output.trans h.output,Nat.le_trans h.size k.size,fun b hb hf=>(k.block b (Nat.lt_of_lt_of_le hb h.size) (fun hg=>by rcases hG b hg with h1|h1;exact hf h1;omega)).trans (h.block b hb hf)⟩
def TickF (last now:Int)(k:Nat):Prop:=((now<0∨1099511627776<now)∧k=1)∨(0≤now∧now≤1099511627776∧now<last∧k=7)
def TickOk (last now:Int):Prop:=0≤now∧now≤1099511627776∧last≤now
theorem tick_ex (last now:Int):TickOk last now∨∃k,TickF last now k:=by
 by_cases h:now<0∨1099511627776<now
 ·exact Or.inr ⟨1,Or.inl ⟨h,rfl⟩⟩
 ·by_cases h2:now<last
  ·exact Or.inr ⟨7,Or.inr ⟨by omega,by omega,h2,rfl⟩⟩
  ·exact Or.inl ⟨by omega,by omega,by omega⟩
def Flows1 (w:World)(v:Value)(L:List Lh.Fl):Prop :=
 (L=[]∧(v=.slice none 0 0∨∃ad c,v=.slice (some ad) 0 c))∨∃b o c,v=.slice (some ⟨b,o,none⟩) L.length c∧L.length≤c∧∀i (h:i<L.length),w.cell? ⟨b,o+i*3,none⟩=some (.int .u64 (L[i].1:Nat))∧w.cell? ⟨b,o+i*3+1,none⟩=some (.string L[i].2.1)∧w.cell? ⟨b,o+i*3+2,none⟩=some (.int .i64 L[i].2.2)
theorem Flows1.later {w w':World}{v:Value}{L:List Lh.Fl}(h:Flows1 w v L)(hb:Below w.heap.size w w'):Flows1 w' v L:=by
 rcases h with h|⟨b,o,c,e,hc,h⟩
 ·exact Or.inl h
 ·exact Or.inr ⟨b,o,c,e,hc,fun i hi=>⟨below_cell hb (h i hi).1,below_cell hb (h i hi).2.1,below_cell hb (h i hi).2.2⟩⟩
theorem Flows1.shape {w:World}{v:Value}{L:List Lh.Fl}(h:Flows1 w v L):∃p c,v=.slice p L.length c:=by
 rcases h with⟨rfl,rfl|⟨ad,c,rfl⟩⟩|⟨b,o,c,rfl,_⟩
 ·exact⟨_,_,rfl⟩
 ·exact⟨_,c,rfl⟩
 ·exact⟨_,_,rfl⟩
def FlowsNew (B:Nat)(w:World)(v:Value)(L:List Lh.Fl):Prop:=(L=[]∧(v=.slice none 0 0∨∃ad c,v=.slice (some ad) 0 c))∨∃g c,v=.slice (some ⟨g,0,none⟩) L.length c∧L.length≤c∧B≤g∧(∀i (h:i<L.length),w.cell? ⟨g,i*3,none⟩=some (.int .u64 (L[i].1:Nat))∧w.cell? ⟨g,i*3+1,none⟩=some (.string L[i].2.1)∧w.cell? ⟨g,i*3+2,none⟩=some (.int .i64 L[i].2.2))∧∀k,k<L.length*3→w.frozen? ⟨g,k,none⟩=false
theorem FlowsNew.flows {B:Nat}{W:World}{v:Value}{L:List Lh.Fl}(h:FlowsNew B W v L):Flows1 W v L:=by
 rcases h with h|⟨g,c,h1,h2,_,h3,_⟩
 ·exact Or.inl h
 ·exact Or.inr ⟨g,0,c,h1,h2,by simpa only [Nat.zero_add] using h3⟩
def FlIn (l:List Lh.Fl):Prop:=∀x∈l,x.1<18446744073709551616∧x.2.1.size≤300∧-9223372036854775808≤x.2.2∧x.2.2≤9223372036854775807
theorem Flows1.cells {w:World}{v:Value}{L:List Lh.Fl}(h:Flows1 w v L):∃p c,v=.slice p L.length c∧∀i (hi:i<L.length),∃b o,p=some ⟨b,o,none⟩∧w.cell? ⟨b,o+i*3,none⟩=some (.int .u64 (L[i].1:Nat))∧w.cell? ⟨b,o+i*3+1,none⟩=some (.string L[i].2.1)∧w.cell? ⟨b,o+i*3+2,none⟩=some (.int .i64 L[i].2.2):=by
 rcases h with⟨rfl,rfl|⟨ad,c,rfl⟩⟩|⟨b,o,c,rfl,_,h⟩
 ·exact⟨_,_,rfl,fun i hi=>absurd hi (by simp)⟩
 ·exact⟨_,c,rfl,fun i hi=>absurd hi (by simp)⟩
 ·exact⟨_,c,rfl,fun i hi=>⟨b,o,rfl,h i hi⟩⟩
def GoodF (l:List Lh.Fl)(i:Nat)(h:i<l.length):Prop:=Lh.isNm (l[i]).2.1=true∧0≤(l[i]).2.2∧(l[i]).2.2≤1099511628776∧∀j (hj:j<l.length),j<i→(l[j]).1≠(l[i]).1
def FlawF (l:List Lh.Fl)(i:Nat)(h:i<l.length)(c:Nat):Prop:=(Lh.isNm (l[i]).2.1=false∧c=4)∨(Lh.isNm (l[i]).2.1=true∧((l[i]).2.2<0∨1099511628776<(l[i]).2.2)∧c=2)∨(Lh.isNm (l[i]).2.1=true∧0≤(l[i]).2.2∧(l[i]).2.2≤1099511628776∧(∃j,∃hj:j<l.length,j<i∧(l[j]).1=(l[i]).1)∧c=6)
def CaF (e:Int)(l:List Lh.Fl)(c:Nat)(pl:Int):Prop :=
 ((e<0∨1099511627776<e∨200<l.length)∧c=2∧pl = -1) ∨
 ((0≤e∧e≤1099511627776∧l.length≤200)∧∃i,∃h:i<l.length,(∀j,j<i→∀hj:j<l.length,GoodF l j hj)∧pl=i∧FlawF l i h c) ∨
 ((0≤e∧e≤1099511627776∧l.length≤200)∧(∀j,∀hj:j<l.length,GoodF l j hj)∧c=0∧pl = -1)
theorem flaw_good {l:List Lh.Fl}{i:Nat}{h:i<l.length}{c:Nat}(hf:FlawF l i h c):¬GoodF l i h:=by
 rintro ⟨g1,g2,g3,g4⟩
 rcases hf with⟨h1,_⟩|⟨_,h2,_⟩|⟨_,_,_,⟨j,hj,h3,h4⟩,_⟩
 ·rw[g1] at h1;cases h1
 ·omega
 ·exact g4 j hj h3 h4
theorem flaw_one {l:List Lh.Fl}{i:Nat}{h:i<l.length}{c c':Nat}(hf:FlawF l i h c)(hf':FlawF l i h c'):c=c':=by
 rcases hf with⟨h1,e1⟩|⟨h1,h2,e1⟩|⟨h1,h2,h3,h4,e1⟩<;>rcases hf' with⟨g1,e2⟩|⟨g1,g2,e2⟩|⟨g1,g2,g3,g4,e2⟩<;>first|omega|(rw[h1] at g1;cases g1)
theorem caF_one {e:Int}{l:List Lh.Fl}{c c':Nat}{pl pl':Int}(hf:CaF e l c pl)(hf':CaF e l c' pl'):c=c'∧pl=pl':=by
 rcases hf with⟨h1,e1,e2⟩|⟨h1,i,hi,h2,e2,h3⟩|⟨h1,h2,e1,e2⟩<;>rcases hf' with⟨g1,d1,d2⟩|⟨g1,k,hk,g2,d2,g3⟩|⟨g1,g2,d1,d2⟩
 ·omega
 ·omega
 ·omega
 ·omega
 ·have:i=k:=by
   rcases Nat.lt_trichotomy i k with h|h|h
   ·exact absurd (g2 i h hi) (flaw_good h3)
   ·exact h
   ·exact absurd (h2 k h hk) (flaw_good g3)
  subst this
  exact⟨flaw_one h3 g3,by omega⟩
 ·exact absurd (g2 i hi) (flaw_good h3)
 ·omega
 ·exact absurd (h2 k hk) (flaw_good g3)
 ·omega
end Go.Proofs.YtfhmfjcpggddkaaGreatDoor
namespace Go.Proofs.YtfhmfjcpggddkaaGreatDoor
namespace Lh
def rowsB (l:List Fl):List UInt8:=l.flatMap fun x=>lineF x++[10]
theorem join_rows:∀(w:List UInt8) (l:List Fl),joinL 10 (w :: l.map lineF)++[10]=w++[10]++rowsB l
 | w,[]=>by simp[joinL,rowsB]
 | w,x :: l=>by
  have:=join_rows (lineF x) l
  simp only[List.map_cons,rowsB,List.flatMap_cons] at this ⊢
  show w++10 :: joinL 10 (lineF x :: l.map lineF)++[10]=_
  rw[List.append_assoc,List.cons_append,this]
  simp
theorem body_rows (e:Nat)(l:List Fl):bodyL e l=headL e l.length++[10]++rowsB l:=join_rows _ _
theorem rowsB_snoc (l:List Fl)(x:Fl):rowsB (l++[x])=rowsB l++(lineF x++[10]):=by simp[rowsB]
theorem rowsB_take {l:List Fl}{i:Nat}(h:i<l.length):rowsB (l.take (i+1))=rowsB (l.take i)++(lineF l[i]++[10]):=by
 rw[List.take_succ_eq_append_getElem h,rowsB_snoc]
theorem lineF_len {x:Fl}(h1:x.2.1.size≤60)(h2:x.2.2.toNat<100000000000000):(lineF x).length≤92:=by
 have e1:=hexL_len 16 x.1
 have e2:=decL_len (n:=x.2.2.toNat) (k:=14) (by decide) (by omega)
 have e3:x.2.1.data.toList.length=x.2.1.size:=rfl
 simp only[lineF,joinL,List.length_append,List.length_cons]
 omega
theorem rowsB_len:∀ {l:List Fl},(∀x∈l,x.2.1.size≤60∧x.2.2.toNat<100000000000000)→(rowsB l).length≤93*l.length
 | [],_=>by simp[rowsB]
 | x :: l,h=>by
  have h1:=rowsB_len (l:=l) fun y hy=>h y (List.mem_cons_of_mem _ hy)
  have h2:=lineF_len (h x (List.mem_cons_self ..)).1 (h x (List.mem_cons_self ..)).2
  simp only[rowsB,List.flatMap_cons,List.length_append,List.length_cons,List.length_nil] at h1 ⊢
  omega
theorem headL_len {e n:Nat}(he:e<100000000000000)(hn:n<100000000000000):(headL e n).length≤35:=by
 have e1:=decL_len (n:=e) (k:=14) (by decide) (by omega)
 have e2:=decL_len (n:=n) (k:=14) (by decide) (by omega)
 simp only[headL,joinL,flowsW,List.length_append,List.length_cons,List.length_nil]
 omega
end Lh
namespace Lh
theorem bt_list (l:List UInt8):(bt l).toList=l:=by rw[ByteArray.toList_eq];rfl
end Lh
end Go.Proofs.YtfhmfjcpggddkaaGreatDoor
namespace Go.Proofs.YtfhmfjcpggddkaaGreatDoor
open Go
def encF (x:Lh.Fl):List Value:=[.int .u64 (x.1:Nat),.string x.2.1,.int .i64 x.2.2]
def flatF (L:List Lh.Fl):List Value:=L.flatMap encF
theorem flatF_append (L M:List Lh.Fl):flatF (L++M)=flatF L++flatF M:=by simp[flatF,List.flatMap_append]
theorem flatF_length (L:List Lh.Fl):(flatF L).length=L.length*3:=by
 induction L with
 | nil=>rfl
 | cons p P ih =>
  have:flatF (p :: P)=encF p++flatF P:=rfl
  rw[this,List.length_append,ih,List.length_cons]
  simp[encF]
  omega
theorem flatF_get (L:List Lh.Fl):∀i (h:i<L.length),(flatF L)[i*3]?=some (.int .u64 (L[i].1:Nat))∧(flatF L)[i*3+1]?=some (.string L[i].2.1)∧(flatF L)[i*3+2]?=some (.int .i64 L[i].2.2):=by
 induction L with
 | nil=>intro i h;cases h
 | cons p P ih =>
  intro i h
  have e:flatF (p :: P)=.int .u64 (p.1:Nat) :: .string p.2.1 :: .int .i64 p.2.2 :: flatF P:=rfl
  rw[e]
  match i,h with
  | 0,_=>exact⟨rfl,rfl,rfl⟩
  | i+1,h =>
   have:=ih i (by simpa using h)
   rw[show (i+1)*3=i*3+1+1+1 by omega]
   simpa using this
theorem flatF_take (L:List Lh.Fl):∀k,flatF (L.take k)=(flatF L).take (k*3):=by
 induction L with
 | nil=>intro k;simp[flatF]
 | cons p P ih =>
  intro k
  match k with
  | 0=>rfl
  | k+1 =>
   rw[List.take_succ_cons,show (k+1)*3=k*3+1+1+1 by omega]
   have e:∀M,flatF (p :: M)=.int .u64 (p.1:Nat) :: .string p.2.1 :: .int .i64 p.2.2 :: flatF M:=fun _=>rfl
   rw[e,e,ih k,List.take_succ_cons,List.take_succ_cons,List.take_succ_cons]
theorem flatF_drop (L:List Lh.Fl):∀k,flatF (L.drop k)=(flatF L).drop (k*3):=by
 induction L with
 | nil=>intro k;simp[flatF]
 | cons p P ih =>
  intro k
  match k with
  | 0=>rfl
  | k+1 =>
   rw[List.drop_succ_cons,show (k+1)*3=k*3+1+1+1 by omega]
   have e:∀M,flatF (p :: M)=.int .u64 (p.1:Nat) :: .string p.2.1 :: .int .i64 p.2.2 :: flatF M:=fun _=>rfl
   rw[e,ih k,List.drop_succ_cons,List.drop_succ_cons,List.drop_succ_cons]
theorem flatF_one (L:List Lh.Fl):∀u∈flatF L,u.oneCell'=true:=by
 intro u hu
 obtain⟨x,hx,hu⟩:=List.mem_flatMap.1 hu
 simp[encF] at hu
 rcases hu with rfl|rfl|rfl<;>rfl
end Go.Proofs.YtfhmfjcpggddkaaGreatDoor
