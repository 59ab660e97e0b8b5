/- Scripts: what is right stays right; no answer is empty. -/
import Derived.Test.YtfhmfjcpggddkaaGreatDoorM15
import Derived.Test.YtfhmfjcpggddkaaGreatDoorM7
import Derived.Test.YtfhmfjcpggddkaaGreatDoorM14
import Derived.Test.YtfhmfjcpggddkaaGreatDoorM10
import Derived.Test.YtfhmfjcpggddkaaGreatDoorM11
import Derived.Shelf.Abstract
import Derived.BigQuiet
import Derived.Deep.RegionHeld3
set_option maxHeartbeats 20000000
set_option maxRecDepth 100000
namespace Go.Proofs.YtfhmfjcpggddkaaGreatDoor
open Go.RowKit Lh
theorem fold_lt:∀(l:List UInt8) (n:Nat),l.all isDg=true→l.foldl (fun n c=>10*n+(c.toNat - 48)) n<(n+1)*10 ^ l.length
 | [],n,_=>by simp
 | c :: l,n,h=>by
  rw[List.all_cons,Bool.and_eq_true_iff] at h
  have h1:=h.1
  unfold isDg at h1
  simp at h1
  have h2:=fold_lt l (10*n+(c.toNat - 48)) h.2
  rw[List.foldl_cons,List.length_cons,Nat.pow_succ]
  have h3:10*n+(c.toNat - 48)+1≤(n+1)*10:=by omega
  have h4:(10*n+(c.toNat - 48)+1)*10 ^ l.length≤(n+1)*10*10 ^ l.length:=Nat.mul_le_mul_right _ h3
  have h5:(n+1)*10*10 ^ l.length=(n+1)*(10 ^ l.length*10):=by rw[Nat.mul_assoc,Nat.mul_comm 10]
  omega
theorem valL_lt (l:List UInt8)(h:l.all isDg=true):valL l<10 ^ l.length:=by
 have:=fold_lt l 0 h
 simpa [valL] using this
theorem numW_hi {l:List UInt8}{k:Nat}(h:numW l=some k):k≤9999999:=by
 unfold numW at h
 split at h
 ·cases h
 ·rename_i hl
  have hd:=numL_inv h
  have hb:(decL k).length≤7:=by rw[hd];omega
  by_cases hk:k<10 ^ 7
  ·omega
  ·exfalso
   have hv:=decL_val k
   have hdig:=decL_dig k
   have this:=fun {l:List UInt8} (h:l.all isDg=true)=>valL_lt l h
   have h1:=this hdig
   rw[hv] at h1
   have h2:10 ^ (decL k).length≤10 ^ 7:=Nat.pow_le_pow_right (by decide) hb
   omega
theorem mapM_num:∀ {r:List (List UInt8)} {ks:List Nat},r.mapM numW=some ks→∀k∈ks,k≤9999999
 | [],ks,h=>by
  simp at h
  subst h
  intro k hk
  cases hk
 | x :: r,ks,h=>by
  rw[List.mapM_cons] at h
  cases hx:numW x with
  | none=>rw[hx] at h;cases h
  | some k0 =>
   cases hr:r.mapM numW with
   | none=>rw[hx,hr] at h;cases h
   | some ks0 =>
    rw[hx,hr] at h
    obtain rfl:k0 :: ks0=ks:=Option.some.inj h
    intro k hk
    rcases List.mem_cons.1 hk with rfl|hk
    ·exact numW_hi hx
    ·exact mapM_num hr k hk
theorem names_nm {r:List (List UInt8)}(h:namesW r=true):∀s∈r.map bt,isNm s=true:=by
 unfold namesW at h
 rw[List.all_eq_true] at h
 intro s hs
 obtain⟨x,hx,rfl⟩:=List.mem_map.1 hs
 exact h x hx
theorem cmOf_ok {s:List UInt8}{c:Cm}(h:cmOf s=some c):∃hh n,CmOk c hh n:=by
 unfold cmOf wordsC at h
 split at h
 ·cases h
 ·rename_i w r _
  split at h
  ·cases h
  ·rename_i hh n hf
   unfold restW at h
   split at h
   ·rename_i hw
    subst hw
    obtain⟨rfl,rfl⟩:=form_moves hf
    split at h
    ·rename_i x hs
     split at h
     ·rename_i k hk
      split at h
      ·rename_i hc
       obtain rfl:=(Option.some.inj h).symm
       refine⟨-1,1,hf,rfl,fun q=>absurd q (by decide),fun _=>by simpa using hc.1,names_nm hc.2,fun z hz=>?_,fun q=>absurd q (by decide)⟩
       obtain rfl:z=k:=by simpa using hz
       exact numW_hi hk
      ·cases h
     ·cases h
    ·cases h
   ·rename_i hw
    split at h
    ·rename_i h1
     subst h1
     obtain rfl:=form_any hf hw
     split at h
     ·rename_i hc
      obtain rfl:=(Option.some.inj h).symm
      exact⟨-1,0,hf,rfl,fun q=>absurd q (by decide),fun _=>by simpa using hc.1,names_nm hc.2,(fun z hz=>by cases hz),fun q=>absurd q (by decide)⟩
     ·cases h
    ·rename_i h1
     split at h
     ·rename_i h2
      subst h2
      have hn1:n=1:=by
       rcases form_three hf with q|q|⟨_,q⟩
       ·omega
       ·omega
       ·exact q
      subst hn1
      split at h
      ·rename_i x y _q
       split at h
       ·rename_i k hk
        split at h
        ·rename_i hc
         obtain rfl:=(Option.some.inj h).symm
         refine⟨1,1,hf,rfl,fun _=>rfl,fun q=>absurd q (by decide),fun z hz=>?_,fun z hz=>?_,fun _ z hz=>?_⟩
         ·obtain rfl:z=bt x:=by simpa using hz
          exact hc.1
         ·obtain rfl:z=k:=by simpa using hz
          exact numW_hi hk
         ·obtain rfl:z=k:=by simpa using hz
          exact hc.2
        ·cases h
       ·cases h
      ·cases h
     ·rename_i h2
      have h0:hh=0:=by
       rcases form_three hf with q|q|⟨q,_⟩
       ·exact absurd q h1
       ·exact q
       ·exact absurd q h2
      subst h0
      split at h
      ·rename_i ks hk
       split at h
       ·rename_i hc
        obtain rfl:=(Option.some.inj h).symm
        exact⟨0,n,hf,hc,fun _=>rfl,fun q=>absurd q (by decide),(fun z hz=>by cases hz),mapM_num hk,fun q=>absurd q (by decide)⟩
       ·cases h
      ·cases h
structure SOk (S:Sc):Prop where
 f:IsFault S.hosts 0 (-1)
 ne:S.hosts≠[]
 ok:BOk S.b
def StOk (st:Option Sc):Prop:=∀S,st=some S→SOk S
theorem fault_facts {xs:List ByteArray}(h:IsFault xs 0 (-1)):xs.length≤12∧xs.Nodup∧(∀s∈xs,isNm s=true)∧∀s∈xs,s.size≤300:=by
 obtain⟨_,h12,hnd⟩:=fault_zero h
 have hnm:∀s∈xs,isNm s=true:=fault_nm h
 refine⟨h12,hnd,hnm,fun s hs=>?_⟩
 have:=(nm_word (hnm s hs)).2.2.2
 omega
theorem newB_ok {xs:List ByteArray}(h:IsFault xs 0 (-1)):BOk (newB xs):=by
 obtain⟨hl,hnd,hnm,hsz⟩:=fault_facts h
 have h1:=bok_new (n:=31) (t:=20) hl hnd hsz hnm prm31 (by decide) (by decide) (by decide)
 exact⟨hnew_ok (by simp[newB]) (by simp[newB]) (by simp[newB]) (by simp[newB]) hl hnd hsz,h1.nm,h1.ok,h1.host,h1.hi,h1.t1,h1.t2,h1.prm,h1.s5,h1.ep0,h1.ep1,h1.la0,h1.la1⟩
section
variable {nw:List ByteArray→Nat→Nat→ByteArray}
theorem balR_ok (hnwI:∀ {xs:List ByteArray} {n:Nat} (k:Nat),xs≠[]→Lh.Prm n→nw xs n k∈xs){S S':Sc}{c:Cm}{a:List UInt8}(h:SOk S)(hc:∀k∈c.N,k≤9999999)(hb:BalR nw S c S' a):SOk S':=by
 rcases hb with⟨_,k,b',s,kept,e,hN,hp,rfl,_⟩|⟨_,x,k,b',t,e,_,_,hp,rfl,_⟩|⟨_,x,k,b',e,_,_,hp,rfl,_⟩|⟨_,k,_,rfl,_⟩|⟨_,rfl,_⟩|⟨_,rfl,_⟩|⟨_,b',s,e,hp,rfl,_⟩
 ·exact⟨h.f,h.ne,pickR_ok hnwI h.ok (by have:=hc k (by rw[hN];simp);omega) hp⟩
 ·exact⟨h.f,h.ne,lookR_ok h.ok hp⟩
 ·exact⟨h.f,h.ne,drainR_ok h.ok hp⟩
 ·exact⟨h.f,h.ne,h.ok⟩
 ·exact h
 ·exact h
 ·exact⟨h.f,h.ne,exportR_ok h.ok hp⟩
theorem cmR_ok (hnwI:∀ {xs:List ByteArray} {n:Nat} (k:Nat),xs≠[]→Lh.Prm n→nw xs n k∈xs){st st':Option Sc}{c:Cm}{hh:Int}{n:Nat}{a:List UInt8}(h:StOk st)(hc:CmOk c hh n)(hr:CmR nw st c st' a):StOk st':=by
 rcases hr with⟨w,e,pl,hf,hq⟩|⟨_,rfl,_⟩|⟨_,_,_,rfl,_⟩|⟨_,_,S,rfl,hq⟩
 ·rcases hq with⟨_,rfl,_⟩|⟨rfl,rfl,_⟩
  ·exact h
  ·intro S hS
   obtain rfl:=Option.some.inj hS
   have hpl:pl = -1:=by
    rcases hf with⟨_,q,_⟩|⟨_,i,hi,_,_,⟨_,q⟩|⟨_,_,q⟩⟩|⟨_,_,_,q⟩
    ·cases q
    ·cases q
    ·cases q
    ·exact q
   subst hpl
   have hform:formW wHosts=some (-1,0):=by decide
   have hf1:=hc.form
   rw[w,hform] at hf1
   have hh1:hh = -1:=by
    injection hf1 with q
    injection q with q1 _
    exact q1.symm
   exact⟨hf,hc.any (by omega),newB_ok hf⟩
 ·exact h
 ·exact fun S q=>by cases q
 ·rcases hq with⟨S',hb,rfl⟩|⟨_,rfl⟩
  ·intro T hT
   obtain rfl:=Option.some.inj hT
   exact balR_ok hnwI (h S rfl) hc.hi hb
  ·exact h
end
end Go.Proofs.YtfhmfjcpggddkaaGreatDoor
namespace Go.Proofs.YtfhmfjcpggddkaaGreatDoor
open Go.RowKit
def nwB (xs:List ByteArray)(n k:Nat):ByteArray:=if h:((Lh.tab xs n n).getD (Lh.turn k % n) 0).toNat<xs.length then xs[((Lh.tab xs n n).getD (Lh.turn k % n) 0).toNat] else xs.headD ByteArray.empty
theorem nwB_in {xs:List ByteArray}{n:Nat}(k:Nat)(h:xs≠[]):nwB xs n k∈xs:=by
 unfold nwB
 split
 ·exact List.getElem_mem _
 ·cases xs with
  | nil=>exact absurd rfl h
  | cons x l=>simp
theorem bopen_facts {S:Lh.Bl}(h:Lh.BOk S):(Lh.bopen S).length≤12∧(Lh.bopen S).Nodup∧∀s∈Lh.bopen S,Lh.isNm s=true∧s.size≤300:=by
 have hsub:(Lh.bopen S).Sublist (S.hs.map fun x=>x.1):=List.filter_sublist.trans (List.filter_sublist.map _)
 refine⟨?_,h.h.nodup.sublist hsub,fun s hs=>Lh.hup_nm h (Lh.bopen_mem.1 hs).1⟩
 have:=hsub.length_le
 rw[List.length_map] at this
 exact Nat.le_trans this h.h.len
end Go.Proofs.YtfhmfjcpggddkaaGreatDoor
namespace Go.Proofs.YtfhmfjcpggddkaaGreatDoor
open Go.RowKit Lh
structure SB (S:Sc)(j:Nat):Prop where
 ok:SOk S
 n0:0≤S.now
 n9:S.now≤9999999*(j:Int)
 ep:S.b.ep≤(j:Int)
 key:∀x∈S.b.L,x.1≤9999999
def StB (st:Option Sc)(j:Nat):Prop:=∀S,st=some S→SB S j
theorem fput_key {t:Nat}{L:List Fl}{k:Nat}{s:ByteArray}{now:Int}{m:Nat}(h:∀x∈L,x.1≤m)(hk:k≤m):∀x∈fput t L k s now,x.1≤m:=by
 intro x hx
 rcases fput_mem hx with rfl|hx
 ·exact hk
 ·exact h x hx
section
variable {nw:List ByteArray→Nat→Nat→ByteArray}
theorem balR_bnd (hnwI:∀ {xs:List ByteArray} {n:Nat} (k:Nat),xs≠[]→Lh.Prm n→nw xs n k∈xs){S S':Sc}{c:Cm}{a:List UInt8}{j:Nat}(h:SB S j)(hc:∀k∈c.N,k≤9999999)(hb:BalR nw S c S' a):SB S' (j+1):=by
 have hok:=balR_ok hnwI h.ok hc hb
 have h9:=h.n9
 have h8:=h.ep
 rcases hb with⟨_,k,b',s,kept,e,hN,hp,rfl,_⟩|⟨_,x,k,b',t,e,_,_,hp,rfl,_⟩|⟨_,x,k,b',e,_,_,hp,rfl,_⟩|⟨_,k,hN,rfl,_⟩|⟨_,rfl,_⟩|⟨_,rfl,_⟩|⟨_,b',s,e,hp,rfl,_⟩
 ·have hk:=hc k (by rw[hN];simp)
  rcases hp with⟨_,_,rfl,_⟩|⟨_,_,_,_,rfl⟩|⟨_,_,_,_,_,_,rfl⟩|⟨_,_,_,_,_,_,rfl⟩
  ·exact⟨hok,h.n0,by simp only;omega,by simp only;omega,h.key⟩
  ·exact⟨hok,h.n0,by simp only;omega,by simp only;omega,fput_key h.key hk⟩
  ·exact⟨hok,h.n0,by simp only;omega,by simp only;omega,h.key⟩
  ·exact⟨hok,h.n0,by simp only;omega,by simp only;omega,fput_key h.key hk⟩
 ·rcases hp with⟨_,_,_,rfl⟩|⟨_,_,_,rfl⟩
  ·refine⟨hok,h.n0,by simp only;omega,by simp only[blook];omega,fun x hx=>?_⟩
   simp only[blook] at hx
   split at hx
   ·exact h.key x (List.mem_filter.1 hx).1
   ·exact h.key x hx
  ·exact⟨hok,h.n0,by simp only;omega,by simp only;omega,h.key⟩
 ·rcases hp with⟨_,_,rfl⟩|⟨_,_,rfl⟩
  ·exact⟨hok,h.n0,by simp only;omega,by simp only;omega,h.key⟩
  ·exact⟨hok,h.n0,by simp only;omega,by simp only;omega,h.key⟩
 ·have hk:=hc k (by rw[hN];simp)
  have h0:=h.n0
  exact⟨hok,by simp only;omega,by simp only;omega,by simp only;omega,h.key⟩
 ·exact⟨hok,h.n0,by omega,by omega,h.key⟩
 ·exact⟨hok,h.n0,by omega,by omega,h.key⟩
 ·rcases hp with⟨_,_,_,rfl⟩|⟨_,_,_,rfl⟩
  ·exact⟨hok,h.n0,by simp only;omega,by simp only;omega,h.key⟩
  ·exact⟨hok,h.n0,by simp only;omega,by simp only;omega,h.key⟩
theorem SB.more {S:Sc}{j:Nat}(h:SB S j):SB S (j+1):=by
 have h9:=h.n9
 have h8:=h.ep
 exact⟨h.ok,h.n0,by omega,by omega,h.key⟩
theorem cmR_bnd (hnwI:∀ {xs:List ByteArray} {n:Nat} (k:Nat),xs≠[]→Lh.Prm n→nw xs n k∈xs){st st':Option Sc}{c:Cm}{hh:Int}{n j:Nat}{a:List UInt8}(h:StB st j)(hc:CmOk c hh n)(hr:CmR nw st c st' a):StB st' (j+1):=by
 have hok:StOk st':=cmR_ok hnwI (fun S hS=>(h S hS).ok) hc hr
 intro T hT
 rcases hr with⟨w,e,pl,hf,hq⟩|⟨_,rfl,_⟩|⟨_,_,_,rfl,_⟩|⟨_,_,S,rfl,hq⟩
 ·rcases hq with⟨_,rfl,_⟩|⟨rfl,rfl,_⟩
  ·exact (h T hT).more
  ·obtain rfl:=Option.some.inj hT
   exact⟨hok _ rfl,by simp,by simp only;omega,by simp[newB];omega,fun x hx=>by simp[newB] at hx⟩
 ·exact (h T hT).more
 ·cases hT
 ·rcases hq with⟨S',hb,rfl⟩|⟨_,rfl⟩
  ·obtain rfl:=Option.some.inj hT
   exact balR_bnd hnwI (h S rfl) hc.hi hb
  ·exact (h T hT).more
theorem linesR_snoc:∀ {ss rs:List (List UInt8)} {st st1 st2:Option Sc} {s a:List UInt8},LinesR nw st ss rs st1→LineR nw st1 s st2 a→LinesR nw st (ss++[s]) (rs++[a]) st2
 | [],_,_,_,st2,_,a,⟨rfl,rfl⟩,h=>⟨st2,a,[],h,rfl,rfl,rfl⟩
 | _ :: _,_,_,_,_,_,_,⟨s1,a1,rs1,h1,rfl,hr⟩,h=>⟨s1,a1,rs1++[_],h1,rfl,linesR_snoc hr h⟩
end
end Go.Proofs.YtfhmfjcpggddkaaGreatDoor
namespace Go.Proofs.YtfhmfjcpggddkaaGreatDoor
open Go.RowKit Go.Shelf
def ptrS (b:Nat):Value:=.pointer (some ⟨b,0,none⟩)
structure HSt (W:World)(b:Nat)(x:Lh.Hh):Prop where
 c0:W.cell? ⟨b,0,none⟩=some (.string x.1)
 c1:W.cell? ⟨b,1,none⟩=some (.bool x.2.1)
 c2:W.cell? ⟨b,2,none⟩=some (.int .i64 (x.2.2:Nat))
 fz:∀k,W.frozen? ⟨b,k,none⟩=false
 blk:∃cs t,W.heap[b]?=some (.cells cs t (0,0))
theorem HSt.lt {W:World}{b:Nat}{x:Lh.Hh}(h:HSt W b x):b<W.heap.size:=World.block_lt_of_cell? W ⟨b,0,none⟩ h.c0
theorem HSt.same {W W':World}{b:Nat}{x:Lh.Hh}(h:HSt W b x)(e:W'.heap[b]?=W.heap[b]?):HSt W' b x :=
 ⟨(World.cell?_of_block (w:=W) (w':=W') (a:=⟨b,0,none⟩) e).trans h.c0,(World.cell?_of_block (w:=W) (w':=W') (a:=⟨b,1,none⟩) e).trans h.c1,(World.cell?_of_block (w:=W) (w':=W') (a:=⟨b,2,none⟩) e).trans h.c2,fun k=>(World.frozen?_of_block (w:=W) (w':=W') (a:=⟨b,k,none⟩) e).trans (h.fz k),by rw[e];exact h.blk⟩
structure HR (W:World)(p f r:Nat)(l:List Lh.Hh)(bs:List Nat)(lv:Value):Prop where
 c0:W.cell? ⟨p,0,none⟩=some (.int .i64 (f:Nat))
 c1:W.cell? ⟨p,1,none⟩=some (.int .i64 (r:Nat))
 c2:W.cell? ⟨p,2,none⟩=some lv
 fz:∀k,W.frozen? ⟨p,k,none⟩=false
 own:W.ownsRow (p+1) 217 1 lv l.length (bs.map ptrS)
 len:bs.length=l.length
 st:∀i (h:i<l.length) (h2:i<bs.length),HSt W bs[i] l[i]
 nd:bs.Nodup
 gt:∀b∈bs,p<b
 apart:∀b∈bs,lv.ownBlock≠some b
def HFoot (p:Nat)(bs:List Nat)(lv:Value)(b:Nat):Prop:=b=p∨lv.ownBlock=some b∨b∈bs
section
variable {W W':World} {p f r:Nat} {l:List Lh.Hh} {bs:List Nat} {lv:Value}
theorem HR.plt (h:HR W p f r l bs lv):p<W.heap.size:=World.block_lt_of_cell? W ⟨p,0,none⟩ h.c0
theorem HR.blt (h:HR W p f r l bs lv){b:Nat}(hb:b∈bs):b<W.heap.size:=by
 obtain⟨i,hi,rfl⟩:=List.getElem_of_mem hb
 exact (h.st i (by rw[←h.len];exact hi) hi).lt
theorem HR.lt (h:HR W p f r l bs lv):∀b,HFoot p bs lv b→b<W.heap.size∧p≤b:=by
 rintro b (rfl|e|hb)
 ·exact⟨h.plt,Nat.le_refl _⟩
 ·have:=h.own.lt b e
  omega
 ·exact⟨h.blt hb,Nat.le_of_lt (h.gt b hb)⟩
theorem HR.stay (h:HR W p f r l bs lv)(hs:∀b,HFoot p bs lv b→W'.heap[b]?=W.heap[b]?):HR W' p f r l bs lv:=by
 have hm:=hs p (Or.inl rfl)
 refine⟨?_,?_,?_,fun k=>?_,owns_same h.own fun g e=>hs g (Or.inr (Or.inl e)),h.len,fun i h1 h2=>(h.st i h1 h2).same (hs _ (Or.inr (Or.inr (List.getElem_mem h2)))),h.nd,h.gt,h.apart⟩
 ·rw[World.cell?_of_block (w:=W) (w':=W') (a:=⟨p,0,none⟩) hm];exact h.c0
 ·rw[World.cell?_of_block (w:=W) (w':=W') (a:=⟨p,1,none⟩) hm];exact h.c1
 ·rw[World.cell?_of_block (w:=W) (w':=W') (a:=⟨p,2,none⟩) hm];exact h.c2
 ·rw[World.frozen?_of_block (w:=W) (w':=W') (a:=⟨p,k,none⟩) hm];exact h.fz k
theorem HR.later (h:HR W p f r l bs lv)(hb:Below W.heap.size W W'):HR W' p f r l bs lv:=h.stay fun b hf=>hb.block b (h.lt b hf).1
theorem HR.row (h:HR W p f r l bs lv)(h0:0<l.length):∃g cap,lv=.slice (some ⟨g,0,none⟩) l.length cap∧l.length≤cap∧cap≤maxLen∧p<g∧(∀i (h2:i<bs.length),W.cell? ⟨g,i,none⟩=some (ptrS bs[i]))∧∀k,W.frozen? ⟨g,k,none⟩=false:=by
 obtain⟨hl,⟨e0,h'⟩|⟨g,cap,cur,rfl,hbase,hb,hn,hm,hsz,ht⟩⟩:=h.own
 ·omega
 ·refine⟨g,cap,rfl,hn,hm,by omega,fun i hi=>?_,fun k=>by simp[World.frozen?,hb]⟩
  have hl:=h.len
  have h1:(bs.map ptrS)[i]?=some (ptrS bs[i]):=by simp[hi]
  rw[←ht,List.getElem?_take_of_lt (by omega)] at h1
  simp only[World.cell?,hb]
  simpa using h1
theorem HR.shape (h:HR W p f r l bs lv):∃q cap,lv=.slice q l.length cap:=by
 obtain⟨_,⟨rfl,h'⟩|⟨g,cap,cur,rfl,_⟩⟩:=h.own
 ·exact⟨_,_,by rw[h']⟩
 ·exact⟨_,_,rfl⟩
end
theorem findC (hb b:Nat)(s t:ByteArray)(W:World)(h1:W.cell? ⟨hb,0,none⟩=some (.string s))(h2:W.cell? ⟨b,0,none⟩=some (.string t)) :
  Calls Tryz.prog 197 #[ptrS b,ptrS hb] W fun e w'=>e=.returned (.bool (decide (t=s)))∧Below W.heap.size W w':=by
 unfold ptrS
 by_cases he:t=s
 ·have hq:=bytes_same he
  have HE:Hid (t=s):=he
  clear he
  go_enter Tryz.func197,Tryz.ntmps197
  go_wp2
  go_quiet (fail)
  go_wp2
  go_ret
  exact⟨by simp[HE.out],below_drewN (Below.refl _ _) _⟩
 ·have hq:=bytes_parts he
  have HE:Hid (¬t=s):=he
  clear he
  go_enter Tryz.func197,Tryz.ntmps197
  go_wp2
  go_quiet (fail)
  go_wp2
  go_ret
  exact⟨by simp[HE.out],below_drewN (Below.refl _ _) _⟩
theorem entersFd:∀args w,(callFunc 197 args).run Tryz.prog w=.ok (.enter 197 args) w:=enters_of Tryz.func197 (by kernel_rfl) rfl
theorem indexS_core (hb:Nat)(q:Option Addr)(c:Nat)(l:List Lh.Hh)(bs:List Nat)(s:ByteArray)(W:World)(hlen:bs.length=l.length)(hl:l.length≤12)(hc:∀k (h:k<l.length) (h2:k<bs.length),∃g,q=some ⟨g,0,none⟩∧W.cell? ⟨g,k,none⟩=some (ptrS bs[k])∧W.cell? ⟨bs[k],0,none⟩=some (.string (l[k]).1))(h1:W.cell? ⟨hb,0,none⟩=some (.string s)) :
  Calls Tryz.prog 196 #[.slice q l.length c,.func (.func 197) #[] #[ptrS hb]] W fun e w'=>e=.returned (.int .i64 (fi l s))∧Below W.heap.size W w':=by
 have HC:Hid (∀k (h:k<l.length) (h2:k<bs.length),∃g,q=some ⟨g,0,none⟩∧W.cell? ⟨g,k,none⟩=some (ptrS bs[k])∧W.cell? ⟨bs[k],0,none⟩=some (.string (l[k]).1)):=hc
 have HCL:Hid (∀(W':World) (b:Nat) (t:ByteArray),Below W.heap.size W W'→W.cell? ⟨b,0,none⟩=some (.string t)→Calls Tryz.prog 197 #[ptrS b,ptrS hb] W' fun e w'=>e=.returned (.bool (decide (t=s)))∧Below W.heap.size W w'):=fun W' b t hB h2=>(findC hb b s t W' (below_cell hB h1) (below_cell hB h2)).mono fun _ _ ⟨e,k⟩=>⟨e,below_then hB k⟩
 have HLN:Hid (bs.length=l.length):=hlen
 have eg:=entersFd
 clear hc h1 hlen
 go_enter Tryz.func196,Tryz.ntmps196
 go_wp2_with fail
 go_loopw [5,8] (fun _ t W'=>Below W.heap.size W W'∧∃k:Nat,k≤l.length∧t=.int .i64 (k:Nat)∧∀j (h:j<l.length),j<k→(l[j]).1≠s) (fun _ t _=>l.length+1 - (intOf t).toNat)
 case atStart=>exact⟨Below.refl _ _,0,Nat.zero_le _,rfl,fun j _ h=>absurd h (by omega)⟩
 case round =>
  obtain⟨hB,k,hk,rfl,hp⟩:=hrel
  have HP:Hid (∀j (h:j<l.length),j<k→(l[j]).1≠s):=hp
  clear hp
  by_cases hlt:k<l.length
  ·have hlt2:k<bs.length:=by rw[HLN.out];exact hlt
   obtain⟨g,rfl,c1,c2⟩:=HC.out k hlt hlt2
   have hki:(k:Int)<(l.length:Int):=by omega
   have hcall:=HCL.out _ _ _ hB c2
   have c1':=below_cell hB c1
   have HE:Hid (decide ((l[k]).1=s)=true→fi l s=(k:Nat)):=fun h=>by
    have h1:=fi_at hlt HP.out (of_decide_eq_true h)
    unfold fi
    rw[h1,if_pos hlt]
   have HN:Hid (decide ((l[k]).1=s)=false→∀j (h:j<l.length),j<k+1→(l[j]).1≠s):=fun h j hj hjk=>by
    by_cases e:j=k
    ·subst e
     exact of_decide_eq_false h
    ·exact HP.out j hj (by omega)
   clear c1 c2
   generalize bs[k]=b at *
   unfold ptrS at c1' hcall
   unfold ptrS
   cases hd:decide ((l[k]).1=s) with
   | true =>
    have HE2:Hid (fi l s=(k:Nat)):=HE.out hd
    rw[hd] at hcall
    clear hd HN HE
    go_wp2_with (go_at_fn 197;refine hcall.mono ?_;rintro e w' ⟨rfl,hB2⟩)
    go_ret
    exact⟨by rw[HE2.out];rfl,hB2⟩
   | false =>
    have HN2:Hid (∀j (h:j<l.length),j<k+1→(l[j]).1≠s):=HN.out hd
    rw[hd] at hcall
    clear hd HN HE
    go_wp2_with (go_at_fn 197;refine hcall.mono ?_;rintro e w' ⟨rfl,hB2⟩)
    go_roundw
    case rel=>exact⟨hB2,k+1,by omega,by go_num,HN2.out⟩
    case measure=>simp[intOf];omega
  ·have hki:decide ((k:Int)<(l.length:Int))=false:=by simp;omega
   have HF:Hid (fi l s = -1):=by
    show fi l s = -1
    unfold fi
    rw[if_neg]
    intro h
    exact HP.out _ h (by omega) (Lh.hix_get h)
   go_wp2
   go_ret
   exact⟨by rw[HF.out];rfl,hB⟩
theorem Tur.setCell {F:Nat→Prop}{w w':World}(h:Tur F w w'){x:Nat}(k:Nat)(hx:F x∨w.heap.size≤x)(v:Value):Tur F w (w'.setCell ⟨x,k,none⟩ v) :=
 ⟨h.os,h.tape,h.output,by simpa [World.setCell] using h.size,fun j hj hf=>(heap_setCell_other w' ⟨x,k,none⟩ j v (fun e=>by
  rcases hx with h1|h1
  ·exact hf (e ▸ h1)
  ·have:j=x:=e
   omega)).trans (h.block j hj hf)⟩
section
variable {W W':World} {p f r:Nat} {l:List Lh.Hh} {bs:List Nat} {lv:Value}
theorem HR.at (h:HR W p f r l bs lv){k:Nat}(hk:k<l.length):∃b,bs[k]?=some b:=⟨bs[k]'(by rw[h.len];exact hk),by simp[h.len,hk]⟩
theorem HR.stAt (h:HR W p f r l bs lv){k b:Nat}(hb:bs[k]?=some b)(hk:k<l.length):HSt W b l[k]:=by
 obtain⟨h2,rfl⟩:=List.getElem?_eq_some_iff.1 hb
 exact h.st k hk h2
theorem HR.turned (h:HR W p f r l bs lv){k b:Nat}(hb:bs[k]?=some b)(_hk:k<l.length)(hT:Tur (fun j=>j=b) W W'){x:Lh.Hh}(hx:HSt W' b x):HR W' p f r (l.set k x) bs lv∧Tur (HFoot p bs lv) W W':=by
 obtain⟨h2,e⟩:=List.getElem?_eq_some_iff.1 hb
 have hmem:b∈bs:=e ▸ List.getElem_mem h2
 have hp:=hT.block p h.plt (fun e1=>by have:=h.gt b hmem;omega)
 refine⟨⟨?_,?_,?_,fun j=>?_,?_,by simpa using h.len,fun i h3 h4=>?_,h.nd,h.gt,h.apart⟩,⟨hT.os,hT.tape,hT.output,hT.size,fun j hj hf=>hT.block j hj fun e1=>hf (Or.inr (Or.inr (e1 ▸ hmem)))⟩⟩
 ·rw[World.cell?_of_block (w:=W) (w':=W') (a:=⟨p,0,none⟩) hp];exact h.c0
 ·rw[World.cell?_of_block (w:=W) (w':=W') (a:=⟨p,1,none⟩) hp];exact h.c1
 ·rw[World.cell?_of_block (w:=W) (w':=W') (a:=⟨p,2,none⟩) hp];exact h.c2
 ·rw[World.frozen?_of_block (w:=W) (w':=W') (a:=⟨p,j,none⟩) hp];exact h.fz j
 ·rw[List.length_set]
  exact owns_same h.own fun g eg=>hT.block g (h.own.lt g eg).2 (fun e1=>h.apart b hmem (by rw[eg,e1]))
 ·by_cases eik:k=i
  ·subst eik
   rw[List.getElem_set_self]
   rw[e]
   exact hx
  ·rw[List.getElem_set_ne eik]
   have h5:i<l.length:=by simpa using h3
   refine (h.st i h5 h4).same (hT.block _ (h.st i h5 h4).lt fun e1=>eik ?_)
   have e2:bs[k]=bs[i]:=by rw[e,e1]
   exact (List.getElem_inj h.nd).1 e2
theorem findS_good (h:HR W p f r l bs lv)(hl:l.length≤12)(s:ByteArray)(hx:Lh.hix l s<l.length){b:Nat}(hb:bs[Lh.hix l s]?=some b) :
  Calls Tryz.prog 155 #[.pointer (some ⟨p,0,none⟩),.string s] W fun e w'=>e=.returned (.pointer (some ⟨b,0,none⟩))∧Below W.heap.size W w':=by
 have hb1:Below W.heap.size W (W.alloc (.cells #[.string s] 9)):=(Below.refl _ _).alloc (Nat.le_refl _) _
 have h':=h.later hb1
 obtain⟨g,cap,rfl,hcap,hcm,_,hrow,_⟩:=h'.row (by omega)
 have c2:=h'.c2
 have hxx:=indexS_core W.heap.size (some ⟨g,0,none⟩) cap l bs s _ h.len hl (fun k h1 h2=>⟨g,rfl,hrow k h2,(h'.st k h1 h2).c0⟩) (by simp)
 have e1:fi l s=(Lh.hix l s:Nat):=by unfold fi;rw[if_pos hx]
 rw[e1] at hxx
 obtain⟨h2,e⟩:=List.getElem?_eq_some_iff.1 hb
 have cb:=hrow _ h2
 rw[e] at cb
 have hki:((Lh.hix l s:Nat):Int)<(l.length:Int):=by omega
 unfold maxLen at hcm
 unfold ptrS at cb hxx
 clear h h' hrow e hb h2 e1 hx
 generalize Lh.hix l s=k at *
 have d0:decide ((k:Int)<0)=false:=by simp
 go_enter Tryz.func155,Tryz.ntmps155
 go_wp2_with fail
 refine hxx.mono ?_
 rintro e w' ⟨rfl,hb2⟩
 have hb3:=below_then hb1 hb2
 have c2':=below_cell hb2 c2
 have cb':=below_cell hb2 cb
 clear hxx hb1 hb2 c2 cb
 go_wp2
 go_ret
 exact⟨rfl,hb3⟩
theorem findS_none (h:HR W p f r l bs lv)(hl:l.length≤12)(s:ByteArray)(hx:¬Lh.hix l s<l.length) :
  Calls Tryz.prog 155 #[.pointer (some ⟨p,0,none⟩),.string s] W fun e w'=>e=.returned (.pointer none)∧Below W.heap.size W w':=by
 have hb1:Below W.heap.size W (W.alloc (.cells #[.string s] 9)):=(Below.refl _ _).alloc (Nat.le_refl _) _
 have h':=h.later hb1
 obtain⟨q,cap,rfl⟩:=h'.shape
 have c2:=h'.c2
 have hxx:=indexS_core W.heap.size q cap l bs s _ h.len hl (fun k h1 h2=>by
  obtain⟨g,cap',e,_,_,_,hrow,_⟩:=h'.row (by omega)
  cases e
  exact⟨g,rfl,hrow k h2,(h'.st k h1 h2).c0⟩) (by simp)
 have e1:fi l s = -1:=by unfold fi;rw[if_neg hx]
 rw[e1] at hxx
 unfold ptrS at hxx
 clear h h' e1 hx
 go_enter Tryz.func155,Tryz.ntmps155
 go_wp2_with fail
 refine hxx.mono ?_
 rintro e w' ⟨rfl,hb2⟩
 have hb3:=below_then hb1 hb2
 clear hxx hb1 hb2 c2
 go_wp2
 go_ret
 exact⟨rfl,hb3⟩
theorem isS_any (h:HR W p f r l bs lv)(hk:Lh.HOk f r l)(s:ByteArray) :
  Calls Tryz.prog 99 #[.pointer (some ⟨p,0,none⟩),.string s] W fun e w'=>e=.returned (.bool (Lh.hup l s))∧Below W.heap.size W w':=by
 by_cases hx:Lh.hix l s<l.length
 ·have HU:Hid (Lh.hup l s=(l[Lh.hix l s]).2.1):=hup_at hk.nodup hx
  obtain⟨b,hb⟩:=h.at hx
  have hfd:=findS_good h hk.len s hx hb
  have c1:=(h.stAt hb hx).c1
  clear h hb hk
  generalize (l[Lh.hix l s]).2.1=u at *
  rw[HU.out]
  clear HU hx
  go_enter Tryz.func99,Tryz.ntmps99
  go_wp2_with fail
  refine hfd.mono ?_
  rintro e w1 ⟨rfl,hb1⟩
  have c1':=below_cell hb1 c1
  clear hfd c1
  go_wp2
  go_ret
  exact⟨rfl,hb1⟩
 ·have hfd:=findS_none h hk.len s hx
  rw[hup_none hx]
  clear h hk hx
  go_enter Tryz.func99,Tryz.ntmps99
  go_wp2_with fail
  refine hfd.mono ?_
  rintro e w1 ⟨rfl,hb1⟩
  clear hfd
  go_wp2
  go_ret
  exact⟨rfl,hb1⟩
theorem edge_any (p f r:Nat)(u:Bool)(W:World)(c0:W.cell? ⟨p,0,none⟩=some (.int .i64 (f:Nat)))(c1:W.cell? ⟨p,1,none⟩=some (.int .i64 (r:Nat))) :
  Calls Tryz.prog 156 #[.pointer (some ⟨p,0,none⟩),.bool u] W fun e w'=>e=.returned (.int .i64 (Lh.hedge f r u:Nat))∧w'=W:=by
 cases u with
 | true =>
  go_enter Tryz.func156,Tryz.ntmps156
  go_wp2
  go_ret
  exact⟨by simp[Lh.hedge],rfl⟩
 | false =>
  go_enter Tryz.func156,Tryz.ntmps156
  go_wp2
  go_ret
  exact⟨by simp[Lh.hedge],rfl⟩
end
end Go.Proofs.YtfhmfjcpggddkaaGreatDoor
