/- The landed take: the first free slot of the row. -/
import Derived.Test.YtjeicikflkjacaaGreatDoorM4
import Derived.Carry
set_option maxHeartbeats 20000000
set_option maxRecDepth 100000
namespace Go.Proofs.YtjeicikflkjacaaGreatDoor
open Go.RowKit
structure Two (x y:Nat)(w w':World):Prop where
 os:w'.os=w.os
 tape:w'.tape=w.tape
 output:w'.output=w.output
 size:w'.heap.size=w.heap.size
 block:∀k,k≠x→k≠y→w'.heap[k]?=w.heap[k]?
theorem Two.refl (x y:Nat)(w:World):Two x y w w:=⟨rfl,rfl,rfl,rfl,fun _ _ _=>rfl⟩
theorem Two.drewN {x y:Nat}{w w':World}(h:Two x y w w')(n:Nat):Two x y w (w'.drewN n):=⟨h.os,h.tape,h.output,h.size,h.block⟩
theorem Two.drew {x y:Nat}{w w':World}(h:Two x y w w'):Two x y w w'.drew:=⟨h.os,h.tape,h.output,h.size,h.block⟩
theorem Two.setX {x y:Nat}{w w':World}(h:Two x y w w')(k:Nat)(v:Value):Two x y w (w'.setCell ⟨x,k,none⟩ v) :=
 ⟨h.os,h.tape,h.output,by simpa [World.setCell] using h.size,fun i h1 h2=>(heap_setCell_other w' ⟨x,k,none⟩ i v h1).trans (h.block i h1 h2)⟩
theorem Two.setY {x y:Nat}{w w':World}(h:Two x y w w')(k:Nat)(v:Value):Two x y w (w'.setCell ⟨y,k,none⟩ v) :=
 ⟨h.os,h.tape,h.output,by simpa [World.setCell] using h.size,fun i h1 h2=>(heap_setCell_other w' ⟨y,k,none⟩ i v h2).trans (h.block i h1 h2)⟩
def RowBlk (w:World)(rb:Nat)(h:Int)(sb n:Nat)(p:Nat):Prop:=w.heap[rb]?=some (.cells #[.int .i64 h,.slice (some ⟨sb,0,none⟩) n n,.int .i64 (p:Nat)] 102 (0,0))
section
variable {w w':World} {rb:Nat} {h:Int} {sb n p:Nat}
theorem RowBlk.c0 (hr:RowBlk w rb h sb n p):w.cell? ⟨rb,0,none⟩=some (.int .i64 h):=by rw[cell_of_row w rb 0 _ _ _ hr];rfl
theorem RowBlk.c1 (hr:RowBlk w rb h sb n p):w.cell? ⟨rb,1,none⟩=some (.slice (some ⟨sb,0,none⟩) n n):=by rw[cell_of_row w rb 1 _ _ _ hr];rfl
theorem RowBlk.c2 (hr:RowBlk w rb h sb n p):w.cell? ⟨rb,2,none⟩=some (.int .i64 (p:Nat)):=by rw[cell_of_row w rb 2 _ _ _ hr];rfl
theorem RowBlk.frozen (hr:RowBlk w rb h sb n p)(k:Nat):w.frozen? ⟨rb,k,none⟩=false:=frozen_of_row w rb k _ _ hr
theorem RowBlk.same (hr:RowBlk w rb h sb n p)(he:w'.heap[rb]?=w.heap[rb]?):RowBlk w' rb h sb n p:=by
 unfold RowBlk
 rw[he]
 exact hr
theorem RowBlk.step (hr:RowBlk w rb h sb n p)(q:Nat):RowBlk (w.setCell ⟨rb,2,none⟩ (.int .i64 (q:Nat))) rb h sb n q:=by
 have:=heap_setCell_same w rb 2 _ _ (.int .i64 (q:Nat)) hr
 unfold RowBlk
 rw[this]
 rfl
end
def nextOf (W:World)(rb:Nat):Nat:=(((W.cell? ⟨rb,2,none⟩).map intOf).getD 0).toNat
theorem RowBlk.nextOf {w:World}{rb:Nat}{h:Int}{sb n p:Nat}(hr:RowBlk w rb h sb n p):nextOf w rb=p:=by
 unfold Go.Proofs.YtjeicikflkjacaaGreatDoor.nextOf
 rw[hr.c2]
 simp[intOf]
theorem getD_at {out:List Int}{x:Nat}(h:x<out.length):out.getD x 0=out[x]:=Lh.getD_lt h
theorem take_core (rb sb sl n p0 p:Nat)(h:Int)(r:Nat→Nat)(out:List Int)(w:World)(hr:RowBlk w rb h sb n p0)(hs:IntRow w sb ((List.range n).map fun j=>((r j:Nat):Int)))(ho:IntRow w sl out)(hlen:out.length=n)
  (h1:rb≠sl) (h2:rb≠sb) (h3:sb≠sl) (hrn:∀j,j<n→r j<n) (hn:n≤503) (hp:p<n) (hpp:p0≤p) (hb:∀i,p0≤i→i<p→out.getD (r i) 0≠-1) (hf:out.getD (r p) 0 = -1) :
  Calls Tryz.prog 37 #[.pointer (some ⟨rb,0,none⟩),.slice (some ⟨sl,0,none⟩) n n] w fun e w'=>e=.returned (.tuple #[])∧RowBlk w' rb h sb n p∧IntRow w' sl (out.set (r p) h)∧Two rb sl w w':=by
 have HS:Hid (∀W,Two rb sl w W→∀j,j<n→W.cell? ⟨sb,j,none⟩=some (.int .i64 (r j:Nat))):=fun W hW j hj=>by
  have hs':=hs.same (hW.block sb (fun e=>h2 e.symm) h3)
  have:=hs'.cell (k:=j) (by simpa using hj)
  simpa using this
 have HB:Hid (∀i,p0≤i→i<p→out.getD (r i) 0≠-1):=hb
 have HF:Hid (out.getD (r p) 0 = -1):=hf
 have HLEN:Hid (out.length=n):=hlen
 have HLT:Hid (∀j,j<n→r j<n):=hrn
 have H1:Hid (rb≠sl):=h1
 clear hs hb hf hlen hrn h1 h2 h3
 go_enter Tryz.func37,Tryz.ntmps37
 go_wp2_with fail
 go_loopw [] (fun W=>Two rb sl w W∧IntRow W sl out∧∃q:Nat,p0≤q∧q≤p∧RowBlk W rb h sb n q) (fun W=>n - nextOf W rb)
 case atStart=>exact⟨Two.refl _ _ _,ho,p0,Nat.le_refl _,hpp,hr⟩
 case round =>
  obtain⟨h2w,ho',q,hq0,hqp,hrq⟩:=hrel
  have HO:Hid (IntRow wr sl out):=ho'
  have HRQ:Hid (RowBlk wr rb h sb n q):=hrq
  have H2W:Hid (Two rb sl w wr):=h2w
  have c1:=hrq.c1
  have c2:=hrq.c2
  have f2:=hrq.frozen 2
  have c0:=hrq.c0
  have cs:=HS.out _ h2w q (by omega)
  have hxn:=HLT.out q (by omega)
  have co:wr.cell? ⟨sl,r q,none⟩=some (.int .i64 (out.getD (r q) 0)):=by
   rw[ho'.cell (by rw[HLEN.out];exact hxn),getD_at (by rw[HLEN.out];exact hxn)]
  have fo:=ho'.frozen (r q)
  clear ho' hrq hr ho h2w
  have hqi:(q:Int)<(n:Int):=by omega
  have hxi:(r q:Int)<(n:Int):=by omega
  by_cases hqq:q<p
  ·have hne:=HB.out q hq0 hqq
   have hbb:(out.getD (r q) 0 != -1)=true:=by simpa using hne
   clear hne
   generalize out.getD (r q) 0=val at *
   generalize r q=x at *
   go_wp2_with fail
   go_quiet (fail)
   go_wp2_with fail
   have hcast:(q:Int)+1=((q+1:Nat):Int):=rfl
   have hd1:RowBlk (wr.drewN nq) rb h sb n q:=HRQ.out
   have hd2:IntRow (wr.drewN nq) sl out:=HO.out
   rw[hcast]
   have hstep:=hd1.step (q+1)
   refine⟨⟨(H2W.out.drewN nq).setX 2 _,hd2.same (heap_setCell_other _ _ _ _ (fun e=>H1.out e.symm)),q+1,by omega,by omega,hstep⟩,?_⟩
   rw[hstep.nextOf,HRQ.out.nextOf]
   omega
  ·have hqe:q=p:=by omega
   subst hqe
   have hbb:(out.getD (r q) 0 != -1)=false:=by rw[HF.out];rfl
   generalize out.getD (r q) 0=val at *
   have HX:Hid (r q<n):=hxn
   generalize hrx:r q=x at *
   have HRX:Hid (r q=x):=hrx
   clear hrx
   go_wp2_with fail
   go_quiet (fail)
   go_wp2_with fail
   have e0:(wr.drewN nq).cell? ⟨rb,0,none⟩=some (.int .i64 h):=c0
   have e1:(wr.drewN nq).cell? ⟨rb,1,none⟩=some (.slice (some ⟨sb,0,none⟩) n n):=c1
   have e2:(wr.drewN nq).cell? ⟨rb,2,none⟩=some (.int .i64 (q:Nat)):=c2
   have es:(wr.drewN nq).cell? ⟨sb,q,none⟩=some (.int .i64 (x:Nat)):=cs
   have eo:(wr.drewN nq).cell? ⟨sl,x,none⟩=some (.int .i64 val):=co
   have ef:(wr.drewN nq).frozen? ⟨sl,x,none⟩=false:=fo
   have ER:Hid (RowBlk (wr.drewN nq) rb h sb n q):=HRQ.out
   have EO:Hid (IntRow (wr.drewN nq) sl out):=HO.out
   have E2:Hid (Two rb sl w (wr.drewN nq)):=H2W.out.drewN nq
   clear c0 c1 c2 cs co fo f2 HRQ HO H2W
   generalize wr.drewN nq=W1 at *
   go_region
   all_goals
    go_wp2
    refine bodyPost_end (v:=.tuple #[]) (by simp[results,Tryz.results37,go_sem]) rfl ⟨rfl,?_,?_,?_⟩
    ·exact ER.out.same (heap_setCell_other W1 ⟨sl,x,none⟩ rb (.int .i64 h) H1.out)
    ·rw[HRX.out]
     exact EO.out.set x h
    ·exact (E2.out.setY x (.int .i64 h)).drew
theorem take_any (rb sb sl n p0 p:Nat)(h:Int)(s:ByteArray)(out:List Int)(w:World)(hr:RowBlk w rb h sb n p0)(hs:IntRow w sb (Lh.rowL s n))(ho:IntRow w sl out)(hlen:out.length=n)
  (h1:rb≠sl) (h2:rb≠sb) (h3:sb≠sl) (hn2:2≤n) (hn:n≤503) (hp:p<n) (hpp:p0≤p) (hb:∀i,p0≤i→i<p→out.getD (Lh.rowN s n i) 0≠-1) (hf:out.getD (Lh.rowN s n p) 0 = -1) :
  Calls Tryz.prog 37 #[.pointer (some ⟨rb,0,none⟩),.slice (some ⟨sl,0,none⟩) n n] w fun e w'=>e=.returned (.tuple #[])∧RowBlk w' rb h sb n p∧IntRow w' sl (out.set (Lh.rowN s n p) h)∧Two rb sl w w' :=
 take_core rb sb sl n p0 p h (Lh.rowN s n) out w hr hs ho hlen h1 h2 h3 (fun _ _=>Lh.rowAt_lt hn2) hn hp hpp hb hf
end Go.Proofs.YtjeicikflkjacaaGreatDoor
namespace Go.Proofs.YtjeicikflkjacaaGreatDoor
open Go.RowKit Go.Maps Go.ChangeMaps
theorem zeroRow (w:World):(zeroValue 75).run Tryz.prog w=.ok (.pointer none) w:=Tryz.zeroValue75 w
structure Laid (xs:List ByteArray)(n B mb k:Nat)(rb sb:Nat→Nat)(D:DataW Unit)(W:World):Prop where
 map:W.ownsMap Tryz.prog 9 ptrElem mb k D
 isMap:IsMap D
 atKey:∀i (h:i<xs.length),i<k→D.atKey (.string (xs[i]).data.toList) .nil=.lit (.int .i64 (rb i:Nat))
 row:∀i,i<k→RowBlk W (rb i) (i:Nat) (sb i) n 0
 slots:∀i (h:i<xs.length),i<k→IntRow W (sb i) (Lh.rowL xs[i] n)
 base:B≤mb
 rbLo:∀i,i<k→mb<rb i
 sbLo:∀i,i<k→mb<sb i
 rbLt:∀i,i<k→rb i<W.heap.size
 inj:∀i j,i<k→j<k→rb i=rb j→i=j
 apart:∀i j,i<k→j<k→rb i≠sb j
theorem makeMap_hint (w:World)(n:Nat):(Instr.makeMap 73 (some (.int .i64 (n:Nat)))).run Tryz.prog w=.ok (.map (some w.heap.size)) (w.alloc (.map #[] 0)):=by
 simp[Instr.makeMap,asInt,asIntOf]
theorem key_ne {xs:List ByteArray}(hnd:xs.Nodup){i k:Nat}(hi:i<xs.length)(hk:k<xs.length)(h:i≠k):Lit.string (xs[i]).data.toList≠Lit.string (xs[k]).data.toList:=by
 intro e
 simp only[Lit.string.injEq] at e
 refine h (Lh.nodup_inj hnd hi hk ?_)
 generalize xs[i]=x at *
 generalize xs[k]=y at *
 cases x
 cases y
 simpa using e
theorem Laid.next {xs:List ByteArray}{n B mb k:Nat}{rb sb:Nat→Nat}{D:DataW Unit}{W w1 w3:World}(hL:Laid xs n B mb k rb sb D W)(hnd:xs.Nodup)(hk:k<xs.length){g:Nat}(hb1:Below W.heap.size W w1)(hg:W.heap.size≤g)(hrow:IntRow w1 g (Lh.rowL xs[k] n))
  (hown3:w3.ownsMap Tryz.prog 9 ptrElem mb (k+1) (D.put (.string (xs[k]).data.toList) (.lit (.int .i64 (w1.heap.size:Nat)))))
  (hgr:(w1.alloc (.cells #[.int .i64 (k:Nat),.slice (some ⟨g,0,none⟩) n n,.int .i64 0] 102)).grownBy w3 (some mb)):∃rb' sb' D',Laid xs n B mb (k+1) rb' sb' D' w3:=by
 have hmb:=hL.map.lt
 have hs1:=hb1.size
 have hglt:=hrow.lt
 have hsa:(w1.alloc (.cells #[.int .i64 (k:Nat),.slice (some ⟨g,0,none⟩) n n,.int .i64 0] 102)).heap.size=w1.heap.size+1:=by simp
 have hs3:=hgr.size
 rw[hsa] at hs3
 have same:∀q,q<w1.heap.size→q≠mb→w3.heap[q]?=w1.heap[q]?:=fun q hq hne=>by
  rw[hgr.block q (by omega) (fun e=>hne (Option.some.inj e)),Below.heap_alloc _ _ _ hq]
 have old:∀q,q<W.heap.size→q≠mb→w3.heap[q]?=W.heap[q]?:=fun q hq hne=>(same q (by omega) hne).trans (hb1.block q hq)
 refine⟨fun i=>if i=k then w1.heap.size else rb i,fun i=>if i=k then g else sb i,_,hown3,hL.isMap.put _ _,fun i hi hik=>?_,fun i hik=>?_,fun i hi hik=>?_,hL.base,fun i hik=>?_,fun i hik=>?_,fun i hik=>?_,fun i j hi hj e=>?_,fun i j hi hj e=>?_⟩
 ·by_cases e:i=k
  ·subst e
   simp only[if_true]
   exact atKey_put_same (k:=.string _) hL.isMap (by simp[WideAt.IsKeyLit]) _ _
  ·simp only[if_neg e]
   rw[atKey_put_other (key_ne hnd hi hk e)]
   exact hL.atKey i hi (by omega)
 ·by_cases e:i=k
  ·subst e
   simp only[if_true]
   unfold RowBlk
   rw[hgr.block _ (by omega) (fun e=>by have:=Option.some.inj e;omega)]
   exact heap_alloc_new w1 _
  ·simp only[if_neg e]
   have h1:=hL.rbLt i (by omega)
   have h2:=hL.rbLo i (by omega)
   exact (hL.row i (by omega)).same (old _ h1 (by omega))
 ·by_cases e:i=k
  ·subst e
   simp only[if_true]
   exact hrow.same (same g hglt (by omega))
  ·simp only[if_neg e]
   have h2:=hL.sbLo i (by omega)
   have h3:=hL.slots i hi (by omega)
   exact h3.same (old _ h3.lt (by omega))
 ·by_cases e:i=k
  ·simp only[if_pos e];omega
  ·simp only[if_neg e];exact hL.rbLo i (by omega)
 ·by_cases e:i=k
  ·simp only[if_pos e];omega
  ·simp only[if_neg e];exact hL.sbLo i (by omega)
 ·by_cases e:i=k
  ·simp only[if_pos e];omega
  ·simp only[if_neg e]
   have:=hL.rbLt i (by omega)
   omega
 ·by_cases e1:i=k<;>by_cases e2:j=k
  ·omega
  ·simp only[if_pos e1,if_neg e2] at e
   have:=hL.rbLt j (by omega)
   omega
  ·simp only[if_neg e1,if_pos e2] at e
   have:=hL.rbLt i (by omega)
   omega
  ·simp only[if_neg e1,if_neg e2] at e
   exact hL.inj i j (by omega) (by omega) e
 ·by_cases e1:i=k<;>by_cases e2:j=k
  ·simp only[if_pos e1,if_pos e2] at e;omega
  ·simp only[if_pos e1,if_neg e2] at e
   have hj':j<xs.length:=by omega
   have:=(hL.slots j hj' (by omega)).lt
   omega
  ·simp only[if_neg e1,if_pos e2] at e
   have:=hL.rbLt i (by omega)
   omega
  ·simp only[if_neg e1,if_neg e2] at e
   exact hL.apart i j (by omega) (by omega) e
theorem keyStr (s:ByteArray)(hs:s.size≤300):keyOf Tryz.prog 9 (.string s)=some (.string s.data.toList):=Go.WideMaps.keyOf_string_mk Tryz.underlying9 (Nat.le_trans hs (by unfold maxLen;omega))
theorem rowsOf_core (b o c:Nat)(xs:List ByteArray)(n:Nat)(w:World)(hx:∀k (h:k<xs.length),w.cell? ⟨b,o+k,none⟩=some (.string xs[k]))(hl:xs.length≤12)(hnd:xs.Nodup)(hsz:∀k (h:k<xs.length),(xs[k]).size≤300)(h2:2≤n)(h5:n≤503) :
  Calls Tryz.prog 36 #[.slice (some ⟨b,o,none⟩) xs.length c,.int .i64 n] w fun e w'=>∃mb rb sb D,e=.returned (.map (some mb))∧Laid xs n w.heap.size mb xs.length rb sb D w'∧Below w.heap.size w w':=by
 have HX:Hid (∀k (h:k<xs.length),w.cell? ⟨b,o+k,none⟩=some (.string xs[k])):=hx
 have HND:Hid (xs.Nodup):=hnd
 have HSZ:Hid (∀k (h:k<xs.length),(xs[k]).size≤300):=hsz
 clear hx hnd hsz
 have hmm:=makeMap_hint w xs.length
 go_enter Tryz.func36,Tryz.ntmps36
 go_wp2_with fail
 go_loopw [13] (fun t W=>Below w.heap.size w W∧∃k:Nat,k≤xs.length∧t=.int .i64 k∧∃rb sb D,Laid xs n w.heap.size w.heap.size k rb sb D W) (fun t _=>xs.length - (intOf t).toNat)
 case atStart =>
  refine⟨(Below.refl _ _).alloc (Nat.le_refl _) _,0,Nat.zero_le _,rfl,fun _=>0,fun _=>0,_,World.ownsMap_made w _ _ _,isMap_empty,?_,?_,?_,Nat.le_refl _,?_,?_,?_,?_,?_⟩
  all_goals intros;omega
 case round =>
  obtain⟨hb,k,hk,rfl,rb,sb,D,hL⟩:=hrel
  clear hmm
  by_cases hlt:k<xs.length
  ·have cx:=below_cell hb (HX.out k hlt)
   have hsz:=HSZ.out k hlt
   have hkey:=keyStr xs[k] hsz
   have hslot:=slotsOf_any xs[k] n wr hsz h2 h5
   have HL:Hid (Laid xs n w.heap.size w.heap.size k rb sb D wr):=hL
   clear hL
   have hkl:k<maxLen:=by unfold maxLen;omega
   go_wp2_with fail
   refine hslot.mono ?_
   rintro e w1 ⟨g,rfl,hg,hrow,hb1⟩
   have hown:(w1.alloc (.cells #[.int .i64 (k:Nat),.slice (some ⟨g,0,none⟩) n n,.int .i64 0] 102)).ownsMap Tryz.prog 9 ptrElem w.heap.size k D :=
    (ownsMap_same HL.out.map (hb1.block _ HL.out.map.lt)).alloc _
   have HR:Hid (IntRow w1 g (Lh.rowL xs[k] n)):=hrow
   clear hrow hslot
   go_wp2_with (at_mapUpdate;refine wpList_mapUpdate_own _ rfl _ _ _ 73 rfl 9 75 (string_keyed Tryz.underlying9) Tryz.underlying73 ptrElem w.heap.size k D rfl hown hkl _ _ (.string (xs[k]).data.toList) rfl rfl hkey (.lit (.int .i64 (w1.heap.size:Nat))) [] (ptrElem_mk _) ?_;intro w3 hown3 hgr3)
   go_roundw
   case rel =>
    have hb2:Below w.heap.size w w1:=below_then hb hb1
    exact⟨(hb2.alloc hb2.size _).grown hgr3 (by have:=hb2.size;simp;omega) (fun k h=>by cases h;exact Nat.le_refl _),k+1,by omega,by go_num,HL.out.next HND.out hlt hb1 hg HR.out hown3 hgr3⟩
   case measure=>simp[intOf];omega
  ·have hke:k=xs.length:=by omega
   have hd:decide ((k:Int)<(xs.length:Int))=false:=by simp;omega
   have HL:Hid (∃rb sb D,Laid xs n w.heap.size w.heap.size xs.length rb sb D wr):=⟨rb,sb,D,hke ▸ hL⟩
   clear hL hke
   go_wp2
   go_ret
   obtain⟨rb,sb,D,hL⟩:=HL.out
   exact⟨_,rb,sb,D,rfl,hL,hb⟩
theorem nodup_of_good {xs:List ByteArray}(h:∀j,∀hj:j<xs.length,Good xs j hj):xs.Nodup:=by
 refine List.pairwise_iff_getElem.2 fun i j hi hj hij e=>?_
 have h2:=(h j hj).2
 rw[Lh.mem_true] at h2
 ·cases h2
 ·rw[List.mem_take_iff_getElem]
  exact⟨i,by omega,e⟩
theorem fault_zero {xs:List ByteArray}{pl:Int}(h:IsFault xs 0 pl):pl = -1∧xs.length≤12∧xs.Nodup:=by
 rcases h with⟨_,h,_⟩|⟨_,i,_,_,_,⟨_,h⟩|⟨_,_,h⟩⟩|⟨h,hg,_,h'⟩
 ·cases h
 ·cases h
 ·cases h
 ·exact⟨h',by omega,nodup_of_good hg⟩
theorem errIs_zero {a:Nat→Addr}{W:World}{pl:Int}{v:Value}(h:ErrIs a W 0 pl v):v=.nilIface:=by
 rcases h with⟨_,_,h⟩|⟨i,_,h,_⟩
 ·exact h
 ·omega
theorem errIs_pos {a:Nat→Addr}{W:World}{c:Nat}{pl:Int}{v:Value}(h:ErrIs a W c pl v)(hc:c≠0):∃t x,v=.iface t x:=by
 rcases h with⟨h,_⟩|⟨j,_,_,⟨_,h⟩|⟨b,h,_⟩⟩
 ·exact absurd h hc
 ·exact⟨_,_,h⟩
 ·exact⟨_,_,h⟩
theorem strs1_pos {w:World}{v:Value}{xs:List ByteArray}(h:Strs1 w v xs)(hp:0<xs.length):∃b o c,v=.slice (some ⟨b,o,none⟩) xs.length c∧∀k (h:k<xs.length),w.cell? ⟨b,o+k,none⟩=some (.string xs[k]):=by
 rcases h with⟨rfl,_⟩|⟨b,o,c,rfl,_,hc⟩
 ·cases hp
 ·exact⟨b,o,c,rfl,hc⟩
theorem tab_neg {xs:List ByteArray}{n t x:Nat}(h0:0<xs.length)(hx:x<n)(h:(Lh.tab xs n t).getD x 0<0):(Lh.tab xs n t).getD x 0 = -1:=by
 have hl:x<(Lh.tab xs n t).length:=by rw[Lh.tab_length];exact hx
 rw[getD_at hl] at h ⊢
 rcases Lh.fill_vals h0 t _ (List.getElem_mem hl) with e|⟨k,_,e⟩
 ·exact e
 ·rw[e] at h
  unfold Lh.valsN at h
  omega
structure St (xs:List ByteArray)(n g:Nat)(rb sb:Nat→Nat)(w5:World)(T:Nat)(W:World):Prop where
 os:W.os=w5.os
 tape:W.tape=w5.tape
 output:W.output=w5.output
 size:W.heap.size=w5.heap.size
 block:∀k,k≠g→(∀i,i<xs.length→k≠rb i)→W.heap[k]?=w5.heap[k]?
 out:IntRow W g (Lh.tab xs n T)
 rows:∀i (h:i<xs.length),∃p,RowBlk W (rb i) (i:Nat) (sb i) n p∧∀q,q<p→0≤(Lh.tab xs n T).getD (Lh.rowN xs[i] n q) 0
theorem St.find {xs:List ByteArray}{n g:Nat}{rb sb:Nat→Nat}{w5:World}{T:Nat}{W:World}(h:St xs n g rb sb w5 T W)(hp:Lh.Prm n)(h0:0<xs.length)(hT:T<n) :
  ∃i,∃hi:i<xs.length,∃p0 p,Lh.nameAt (Lh.sortT xs) (T % xs.length)=xs[i]∧RowBlk W (rb i) (i:Nat) (sb i) n p0∧p<n∧p0≤p ∧
   (∀q,p0≤q→q<p→(Lh.tab xs n T).getD (Lh.rowN xs[i] n q) 0≠-1)∧(Lh.tab xs n T).getD (Lh.rowN xs[i] n p) 0 = -1 ∧
   Lh.tab xs n (T+1)=(Lh.tab xs n T).set (Lh.rowN xs[i] n p) (i:Nat)∧∀q,q<p→0≤(Lh.tab xs n (T+1)).getD (Lh.rowN xs[i] n q) 0:=by
 have hk:T % xs.length<xs.length:=Nat.mod_lt _ h0
 have hm:=Lh.nameAt_mem hk
 have hi:=Lh.ix_lt hm
 have hat:=Lh.ix_at hm
 obtain⟨p0,hr,htk⟩:=h.rows _ hi
 obtain⟨hpn,hfree,hall⟩:=Lh.pick_spec (Lh.tab_free (xs:=xs) hp h0 hT hk)
 have hrow:∀q,Lh.rowsN (Lh.sortT xs) n (T % xs.length) q=Lh.rowN xs[Lh.ix xs (Lh.nameAt (Lh.sortT xs) (T % xs.length))] n q:=fun q=>by rw[hat];rfl
 have hstep:=Lh.tab_step hpn hfree hall
 rw[hrow] at hfree hstep
 have hall':∀q,q<Lh.pick (Lh.tab xs n T) (Lh.rowsN (Lh.sortT xs) n (T % xs.length)) n→0≤(Lh.tab xs n T).getD (Lh.rowN xs[Lh.ix xs (Lh.nameAt (Lh.sortT xs) (T % xs.length))] n q) 0:=fun q hq=>by rw[←hrow];exact hall q hq
 refine⟨_,hi,p0,_,hat.symm,hr,hpn,?_,fun q _ hq=>?_,tab_neg h0 (Lh.rowAt_lt hp.1) hfree,hstep,fun q hq=>Lh.tab_keeps hp h0 (hall' q hq)⟩
 ·rcases Nat.lt_or_ge (Lh.pick (Lh.tab xs n T) (Lh.rowsN (Lh.sortT xs) n (T % xs.length)) n) p0 with hlt|hge
  ·have:=htk _ hlt
   omega
  ·exact hge
 ·have:=hall' q hq
  omega
theorem St.step {xs:List ByteArray}{n g B mb:Nat}{rb sb:Nat→Nat}{D:DataW Unit}{w5:World}{T:Nat}{W W':World}(h:St xs n g rb sb w5 T W)(hL:Laid xs n B mb xs.length rb sb D w5)(hg:g<B)(hp:Lh.Prm n)(h0:0<xs.length){i p:Nat}(hi:i<xs.length)
  (htab:Lh.tab xs n (T+1)=(Lh.tab xs n T).set (Lh.rowN xs[i] n p) (i:Nat)) (htk:∀q,q<p→0≤(Lh.tab xs n (T+1)).getD (Lh.rowN xs[i] n q) 0)
  (hr:RowBlk W' (rb i) (i:Nat) (sb i) n p) (ho:IntRow W' g ((Lh.tab xs n T).set (Lh.rowN xs[i] n p) (i:Nat))) (h2:Two (rb i) g W W'):St xs n g rb sb w5 (T+1) W':=by
 refine⟨h2.os.trans h.os,h2.tape.trans h.tape,h2.output.trans h.output,h2.size.trans h.size,fun k hk hk'=>(h2.block k (hk' i hi) hk).trans (h.block k hk hk'),by rw[htab];exact ho,fun j hj=>?_⟩
 by_cases e:j=i
 ·subst e
  exact⟨p,hr,htk⟩
 ·obtain⟨q,hq,hqt⟩:=h.rows j hj
  have hlo:=hL.rbLo j hj
  have hB:=hL.base
  exact⟨q,hq.same (h2.block _ (fun e'=>e (hL.inj j i hj hi e')) (by omega)),fun r hr=>Lh.tab_keeps hp h0 (hqt r hr)⟩
theorem St.below {xs:List ByteArray}{n g B:Nat}{rb sb:Nat→Nat}{w w5:World}{T:Nat}{W:World}(h:St xs n g rb sb w5 T W)(hb:Below B w w5)(hg:B≤g)(hr:∀i,i<xs.length→B≤rb i):Below B w W :=
 hb.trans ⟨h.os,h.tape,h.output,by rw[h.size];exact Nat.le_refl _,fun k hk=>h.block k (by omega) (fun i hi=>by have:=hr i hi;omega)⟩
theorem replicate_tab (xs:List ByteArray)(n:Nat):List.replicate n (-1:Int)=Lh.tab xs n 0:=rfl
def TabFault (xs:List ByteArray)(n:Int)(c:Nat)(pl:Int):Prop :=
 (xs=[]∧c=5∧pl = -1)∨(0<xs.length∧IsFault xs c pl∧c≠0)∨(0<xs.length∧IsFault xs 0 (-1)∧Lh.SizeIs n c∧pl = -1)
theorem tabFault_ex (xs:List ByteArray)(n:Int):∃c pl,TabFault xs n c pl:=by
 rcases Nat.eq_zero_or_pos xs.length with h|h
 ·exact⟨5,-1,Or.inl ⟨List.length_eq_zero_iff.1 h,rfl,rfl⟩⟩
 ·obtain⟨c,pl,hf⟩:=isFault_ex xs
  by_cases hc:c=0
  ·subst hc
   obtain⟨e,he⟩:=Lh.sizeIs_ex n
   exact⟨e,-1,Or.inr (Or.inr ⟨h,by have:=(fault_zero hf).1;rwa [this] at hf,he,rfl⟩)⟩
  ·exact⟨c,pl,Or.inr (Or.inl ⟨h,hf,hc⟩)⟩
theorem tabFault_zero {xs:List ByteArray}{n:Int}{pl:Int}(h:TabFault xs n 0 pl):pl = -1∧0<xs.length∧IsFault xs 0 (-1)∧∃m:Nat,n=m∧Lh.Prm m∧2≤m∧m≤503:=by
 rcases h with⟨_,h,_⟩|⟨_,_,h⟩|⟨h0,hf,hs,hp⟩
 ·cases h
 ·exact absurd rfl h
 ·rcases hs with⟨_,h⟩|⟨m,hm,h2,h5,⟨_,h⟩|⟨hprm,_⟩⟩
  ·cases h
  ·cases h
  ·exact⟨hp,h0,hf,m,hm,hprm,h2,h5⟩
end Go.Proofs.YtjeicikflkjacaaGreatDoor
namespace Go.Proofs.YtjeicikflkjacaaGreatDoor
open Go.RowKit
def owner (xs:List ByteArray)(n i:Nat):ByteArray:=Lh.nameAt xs ((Lh.tab xs n n).getD i 0).toNat
def mv (xs ys:List ByteArray)(n k:Nat):Nat:=(List.range k).countP fun i=>decide (owner xs n i≠owner ys n i)
theorem mv_zero (xs ys:List ByteArray)(n:Nat):mv xs ys n 0=0:=rfl
theorem mv_le (xs ys:List ByteArray)(n k:Nat):mv xs ys n k≤k:=by
 have:=List.countP_le_length (p:=fun i=>decide (owner xs n i≠owner ys n i)) (l:=List.range k)
 simpa [mv] using this
theorem mv_same {xs ys:List ByteArray}{n k:Nat}(h:owner xs n k=owner ys n k):mv xs ys n (k+1)=mv xs ys n k:=by
 unfold mv
 rw[List.range_succ,List.countP_append]
 simp[h]
theorem mv_other {xs ys:List ByteArray}{n k:Nat}(h:owner xs n k≠owner ys n k):mv xs ys n (k+1)=mv xs ys n k+1:=by
 unfold mv
 rw[List.range_succ,List.countP_append]
 simp[h]
theorem slot_of {xs:List ByteArray}{n g:Nat}{W:World}(hp:Lh.Prm n)(h0:0<xs.length)(hr:IntRow W g (Lh.tab xs n n)){i:Nat}(hi:i<n):∃j,∃hj:j<xs.length,W.cell? ⟨g,i,none⟩=some (.int .i64 (j:Nat))∧xs[j]=owner xs n i:=by
 obtain⟨j,hj,e⟩:=Lh.tab_full hp h0 hi
 have hl:i<(Lh.tab xs n n).length:=by rw[Lh.tab_length];exact hi
 refine⟨j,hj,?_,?_⟩
 ·rw[hr.cell hl,←getD_at hl,e]
 ·unfold owner
  rw[e,Int.toNat_natCast,Lh.nameAt_lt hj]
end Go.Proofs.YtjeicikflkjacaaGreatDoor
