/- The landed flows: drop, Expire, Drop. -/
import Derived.Test.YtfhmfjcpggddkaaGreatDoorM17
import Derived.Test.YtfhmfjcpggddkaaGreatDoorM3
import Derived.Test.YtfhmfjcpggddkaaGreatDoorM10
set_option maxHeartbeats 20000000
namespace Go.Proofs.YtfhmfjcpggddkaaGreatDoor
open Go.RowKit Go.Maps Go.ChangeMaps Go.Shelf
section
variable {W W':World} {p mb t:Nat} {la:Int} {L:List Lh.Fl}
theorem grown_of_below (h:Below W.heap.size W W'):W.grownBy W' none:=⟨h.os,h.tape,h.output,h.size,fun k hk _=>h.block k hk⟩
theorem beqT (u s:ByteArray):(u.toList==s.toList)=decide (u=s):=by
 by_cases h:u=s
 ·rw[bytes_same h,decide_eq_true h]
 ·rw[bytes_parts h,decide_eq_false h]
theorem dropIn (g B:Nat)(cb:Array Value)(k:Nat)(x:Lh.Fl)(bo:Bool)(eg:∀args w,(callFunc g args).run Tryz.prog w=.ok (.enter g args) w)(hB:W.cell? ⟨B,0,none⟩=some (.func (.func g) #[] cb))
  (hw:∀W',Below W.heap.size W W'→Calls Tryz.prog g (#[valF x]++cb) W' fun e w'=>e=.returned (.bool bo)∧Below W'.heap.size W' w') :
  Calls Tryz.prog 199 #[.int .u64 (k:Nat),valF x,.pointer (some ⟨B,0,none⟩)] W fun e W'=>e=.returned (.bool bo)∧Below W.heap.size W W':=by
 have hb0:Below W.heap.size W (W.alloc (.cells #[.int .u64 (x.1:Nat),.string x.2.1,.int .i64 x.2.2] 80)):=(Below.refl _ _).alloc (Nat.le_refl _) _
 have hc:=hw _ hb0
 have hB':=below_cell hb0 hB
 clear hw
 unfold valF at hc ⊢
 go_enter Tryz.func199,Tryz.ntmps199
 go_wp2_with fail
 refine hc.mono ?_
 rintro e w1 ⟨rfl,hb1⟩
 clear hc
 go_wp2
 go_ret
 exact⟨rfl,below_then hb0 hb1⟩
theorem dropC (B:Nat)(s:ByteArray)(x:Lh.Fl)(hB:W.cell? ⟨B,0,none⟩=some (.string s)) :
  Calls Tryz.prog 158 #[valF x,.pointer (some ⟨B,0,none⟩)] W fun e W'=>e=.returned (.bool (decide (x.2.1=s)))∧Below W.heap.size W W':=by
 have hb0:Below W.heap.size W (W.alloc (.cells #[.int .u64 (x.1:Nat),.string x.2.1,.int .i64 x.2.2] 80)):=(Below.refl _ _).alloc (Nat.le_refl _) _
 have hB':=below_cell hb0 hB
 unfold valF
 generalize x.2.1=u at *
 go_enter Tryz.func158,Tryz.ntmps158
 go_wp2
 go_ret
 exact⟨by rw[←beqT u s];rfl,hb0⟩
theorem dropF (h:FR W p mb t la L)(hp:L.Pairwise fun x y=>x.1<y.1)(hl:L.length≤1000)(pd:Lh.Fl→Bool)(g:Nat)(cb:Array Value)(eg:∀args w,(callFunc g args).run Tryz.prog w=.ok (.enter g args) w)
  (hw:∀W' x,Tur (fun b=>b=mb) W W'→x∈L→Calls Tryz.prog g (#[valF x]++cb) W' fun e w'=>e=.returned (.bool (pd x))∧Below W'.heap.size W' w') :
  Calls Tryz.prog 157 #[.pointer (some ⟨p,0,none⟩),.func (.func g) #[] cb] W fun e W'=>e=.returned (.int .i64 ((L.length - (L.filter fun x=>!pd x).length:Nat):Int))∧FR W' p mb t la (L.filter fun x=>!pd x)∧Tur (fun b=>b=mb) W W':=by
 obtain⟨M,hM⟩:∃M,(L.filter fun x=>!pd x)=M:=⟨_,rfl⟩
 rw[hM]
 have hb0:Below W.heap.size W (W.alloc (.cells #[.func (.func g) #[] cb] 223)):=(Below.refl _ _).alloc (Nat.le_refl _) _
 have h0:=h.later hb0
 have hbox:(W.alloc (.cells #[.func (.func g) #[] cb] 223)).cell? ⟨W.heap.size,0,none⟩=some (.func (.func g) #[] cb):=by simp
 have hlen0:=fun ty=>h0.own.len Tryz.underlying251 ty
 rw[FD_size] at hlen0
 have hmlt:=h.mlt
 have hle:M.length≤L.length:=by rw[←hM];exact List.length_filter_le _ _
 have hdel:=delFuncF pd 199 #[.pointer (some ⟨W.heap.size,0,none⟩)] mb L.length L hp (W.alloc (.cells #[.func (.func g) #[] cb] 223)) (enters_of Tryz.func199 (by kernel_rfl) rfl) h0.own (fun W1 x hg hx=>by
  have hb1:W1.cell? ⟨W.heap.size,0,none⟩=some (.func (.func g) #[] cb):=by
   rw[World.cell?_of_block (w:=W.alloc (.cells #[.func (.func g) #[] cb] 223)) (w':=W1) (a:=⟨W.heap.size,0,none⟩) (hg.block _ (by simp) (fun e=>by cases e;exact absurd hmlt (Nat.lt_irrefl _)))]
   exact hbox
  refine (dropIn g W.heap.size cb x.1 x (pd x) eg hb1 fun W2 hb2=>hw W2 x ?_ hx).mono fun e w' ⟨q1,q2⟩=>⟨q1,grown_of_below q2⟩
  refine⟨hb2.os.trans (hg.os.trans hb0.os),hb2.tape.trans (hg.tape.trans hb0.tape),hb2.output.trans (hg.output.trans hb0.output),Nat.le_trans hb0.size (Nat.le_trans hg.size hb2.size),fun k hk hne=>?_⟩
  exact (hb2.block k (Nat.lt_of_lt_of_le hk (Nat.le_trans hb0.size hg.size))).trans ((hg.block k (Nat.lt_of_lt_of_le hk hb0.size) (fun e=>hne (by cases e;rfl))).trans (hb0.block k hk)))
 rw[hM] at hdel
 have c2:=h0.c2
 have H:Hid (FR W p mb t la L):=h
 have HB0:Hid (Below W.heap.size W (W.alloc (.cells #[.func (.func g) #[] cb] 223))):=hb0
 clear hw h hbox hb0 h0 hM
 go_enter Tryz.func157,Tryz.ntmps157
 go_wp2_with fail
 refine hdel.mono ?_
 rintro e w1 ⟨rfl,hown,hg⟩
 have hT:Tur (fun b=>b=mb) W w1:=⟨hg.os.trans HB0.out.os,hg.tape.trans HB0.out.tape,hg.output.trans HB0.out.output,Nat.le_trans HB0.out.size hg.size,fun k hk hne=>(hg.block k (Nat.lt_of_lt_of_le hk HB0.out.size) (fun e=>hne (by cases e;rfl))).trans (HB0.out.block k hk)⟩
 have hpb:w1.heap[p]?=W.heap[p]?:=hT.block p H.out.plt H.out.ne
 have own2:=ownsMap_tight hown
 rw[FD_size] at own2
 have hlen1:=fun ty=>own2.len Tryz.underlying251 ty
 rw[FD_size] at hlen1
 have hfin:FR w1 p mb t la M:=⟨(World.cell?_of_block (w:=W) (w':=w1) (a:=⟨p,0,none⟩) hpb).trans H.out.c0,(World.cell?_of_block (w:=W) (w':=w1) (a:=⟨p,1,none⟩) hpb).trans H.out.c1,(World.cell?_of_block (w:=W) (w':=w1) (a:=⟨p,2,none⟩) hpb).trans H.out.c2,fun k=>(World.frozen?_of_block (w:=W) (w':=w1) (a:=⟨p,k,none⟩) hpb).trans (H.out.fz k),own2,H.out.ne⟩
 have HFIN:Hid (FR w1 p mb t la M):=hfin
 have HT:Hid (Tur (fun b=>b=mb) W w1):=hT
 have k2:=hfin.c2
 clear hdel hown hg hT hpb own2 hfin c2 hlen0
 have hsub:IntKind.i64.wrap ((L.length:Int) - (M.length:Int))=((L.length - M.length:Nat):Int):=by
  rw[IntKind.wrap_i64];omega
 have HR:Hid (∀r:Int,IntKind.i64.wrap ((L.length:Int) - (M.length:Int))=r→r=((L.length - M.length:Nat):Int)):=fun r e=>e.symm.trans hsub
 clear hsub
 generalize hr:IntKind.i64.wrap ((L.length:Int) - (M.length:Int))=r at *
 have HE:Hid (r=((L.length - M.length:Nat):Int)):=HR.out r rfl
 clear HR hle
 go_wp2
 go_ret
 exact⟨by rw[←HE.out];rfl,HFIN.out,HT.out⟩
end
section
variable {W W':World} {p mb t:Nat} {la:Int} {L:List Lh.Fl}
theorem Tur.behind {F:Nat→Prop}{w w1 w2:World}(h:Tur F w w1)(hb:Below w1.heap.size w1 w2):Tur F w w2 :=
 ⟨hb.os.trans h.os,hb.tape.trans h.tape,hb.output.trans h.output,Nat.le_trans h.size hb.size,fun j hj hf=>(hb.block j (Nat.lt_of_lt_of_le hj h.size)).trans (h.block j hj hf)⟩
theorem Tur.wide {F G:Nat→Prop}{w w1:World}(h:Tur F w w1)(hG:∀b,F b→G b):Tur G w w1:=⟨h.os,h.tape,h.output,h.size,fun k hk hf=>h.block k hk fun hb=>hf (hG k hb)⟩
theorem FR.ticked {W1:World}(h:FR W p mb t la L)(hb:Below W.heap.size W W1)(now:Int):FR (W1.setCell ⟨p,1,none⟩ (.int .i64 now)) p mb t now L∧Tur (FFt p mb) W (W1.setCell ⟨p,1,none⟩ (.int .i64 now)) :=
 ⟨(h.later hb).tick now,(Tur.of_below hb).trans (Tur.ticked now) fun _ hg=>Or.inl hg⟩
theorem dropF_any (h:FR W p mb t la L)(hk:Lh.FlOk L)(s:ByteArray) :
  Calls Tryz.prog 100 #[.pointer (some ⟨p,0,none⟩),.string s] W fun e W'=>e=.returned (.int .i64 ((L.length - (Lh.fdrop L s).length:Nat):Int))∧FR W' p mb t la (Lh.fdrop L s)∧Tur (FFt p mb) W W':=by
 have hb0:Below W.heap.size W (W.alloc (.cells #[.string s] 9)):=(Below.refl _ _).alloc (Nat.le_refl _) _
 have hbox:(W.alloc (.cells #[.string s] 9)).cell? ⟨W.heap.size,0,none⟩=some (.string s):=by simp
 have hmlt:=h.mlt
 have hdr:=dropF (h.later hb0) hk.rise (Nat.le_trans hk.len (by omega)) (fun x=>decide (x.2.1=s)) 158 #[.pointer (some ⟨W.heap.size,0,none⟩)] (enters_of Tryz.func158 (by kernel_rfl) rfl) (fun W3 x hT _=>dropC W.heap.size s x (by
  rw[World.cell?_of_block (w:=W.alloc (.cells #[.string s] 9)) (w':=W3) (a:=⟨W.heap.size,0,none⟩) (hT.block _ (by simp) (fun e=>by simp at e;omega))]
  exact hbox))
 clear hmlt hbox h
 go_enter Tryz.func100,Tryz.ntmps100
 go_wp2_with fail
 refine hdr.mono ?_
 rintro e w2 ⟨rfl,hF,hT⟩
 have HF:Hid (FR w2 p mb t la (Lh.fdrop L s)):=hF
 have HTT:Hid (Tur (FFt p mb) W w2):=(Tur.of_below hb0).trans hT fun b hb=>Or.inl (Or.inr hb)
 clear hdr hF hT
 go_wp2
 go_ret
 exact⟨rfl,HF.out,HTT.out⟩
theorem getF_bad (a:Nat→Addr)(he:EF a W)(h:FR W p mb t la L)(k:Nat)(now:Int)(j:Nat)(hf:TickF la now j) :
  Calls Tryz.prog 152 #[.pointer (some ⟨p,0,none⟩),.int .u64 (k:Nat),.int .i64 now] W fun e W'=>e=.returned (.tuple #[.string ByteArray.empty,.bool false,.iface 378 (.pointer (some (a j)))])∧Below W.heap.size W W':=by
 have hchk:=checkF_bad a he h now j hf
 clear h he
 go_enter Tryz.func152,Tryz.ntmps152
 go_wp2_with fail
 refine hchk.mono ?_
 rintro e w1 ⟨rfl,hb1⟩
 clear hchk
 go_wp2
 go_ret3
 exact⟨rfl,hb1⟩
theorem getF_ok (h:FR W p mb t la L)(k:Nat)(hk:k<18446744073709551616)(now:Int)(hok:TickOk la now) :
  Calls Tryz.prog 152 #[.pointer (some ⟨p,0,none⟩),.int .u64 (k:Nat),.int .i64 now] W fun e W'=>FR W' p mb t now L∧Tur (FFt p mb) W W' ∧
   ((∃h:Lh.fix L k<L.length,now<(L[Lh.fix L k]).2.2∧e=.returned (.tuple #[.string (L[Lh.fix L k]).2.1,.bool true,.nilIface]))∨((∀h:Lh.fix L k<L.length,(L[Lh.fix L k]).2.2≤now)∧e=.returned (.tuple #[.string ByteArray.empty,.bool false,.nilIface]))):=by
 have hchk:=checkF_ok h now hok
 have H:Hid (FR W p mb t la L):=h
 clear h
 go_enter Tryz.func152,Tryz.ntmps152
 go_wp2_with fail
 refine hchk.mono ?_
 rintro e w1 ⟨rfl,hb1⟩
 have h1:=H.out.later hb1
 obtain⟨h2,hT2⟩:=H.out.ticked hb1 now
 have f1:=h1.fz 1
 have c1:=h1.c1
 have H2:Hid (FR (w1.setCell ⟨p,1,none⟩ (.int .i64 now)) p mb t now L):=h2
 have HT2:Hid (Tur (FFt p mb) W (w1.setCell ⟨p,1,none⟩ (.int .i64 now))):=hT2
 have HLK:=h2.look k hk
 have k2:=h2.c2
 clear hchk h1 h2 hT2 hb1
 rcases HLK with⟨hx,hrun⟩|⟨hx,hrun⟩
 ·obtain⟨z,hz⟩:∃z,L[Lh.fix L k]=z:=⟨_,rfl⟩
  rw[hz] at hrun
  have HZ:Hid (L[Lh.fix L k]=z):=hz
  have HX:Hid (Lh.fix L k<L.length):=hx
  clear hz
  by_cases hu:z.2.2≤now
  ·have d:decide (z.2.2≤now)=true:=by simpa using hu
   go_wp2
   go_ret3
   refine⟨H2.out.later ((Below.refl _ _).alloc (Nat.le_refl _) _),HT2.out.behind ((Below.refl _ _).alloc (Nat.le_refl _) _),Or.inr ⟨fun _=>?_,rfl⟩⟩
   rw[HZ.out]
   exact hu
  ·have d:decide (z.2.2≤now)=false:=by simpa using hu
   go_wp2
   go_ret3
   refine⟨H2.out.later ((Below.refl _ _).alloc (Nat.le_refl _) _),HT2.out.behind ((Below.refl _ _).alloc (Nat.le_refl _) _),Or.inl ⟨HX.out,?_,?_⟩⟩
   ·rw[HZ.out]
    omega
   ·rw[HZ.out]
    rfl
 ·have HX:Hid (¬Lh.fix L k<L.length):=hx
  go_wp2
  go_ret3
  exact⟨H2.out.later ((Below.refl _ _).alloc (Nat.le_refl _) _),HT2.out.behind ((Below.refl _ _).alloc (Nat.le_refl _) _),Or.inr ⟨fun hx'=>absurd hx' HX.out,rfl⟩⟩
end
end Go.Proofs.YtfhmfjcpggddkaaGreatDoor
namespace Go.Proofs.YtfhmfjcpggddkaaGreatDoor
open Go.RowKit Go.Shelf Go.Maps Go.ChangeMaps
def SetN (D:DataW Unit)(dr:List ByteArray):Prop:=IsMap D∧Maps.size D=dr.length∧∀s:ByteArray,has D (.string s.data.toList)=decide (s∈dr)
theorem SetN.zero:SetN (.map []) []:=⟨isMap_empty,rfl,fun _=>by simp[has]⟩
theorem filter_out {dr:List ByteArray}{s:ByteArray}(h:s∉dr):(dr.filter fun x=>!decide (x=s))=dr:=List.filter_eq_self.2 fun x hx=>by
 have:x≠s:=fun e=>h (e ▸ hx)
 simpa using this
theorem filter_len {dr:List ByteArray}{s:ByteArray}(hn:dr.Nodup)(h:s∈dr):(dr.filter fun x=>!decide (x=s)).length+1=dr.length:=by
 induction dr with
 | nil=>cases h
 | cons x l ih =>
  rw[List.nodup_cons] at hn
  by_cases e:x=s
  ·subst e
   rw[List.filter_cons_of_neg (by simp),filter_out hn.1]
   rfl
  ·have hm:s∈l:=by
    rcases List.mem_cons.1 h with h|h
    ·exact absurd h.symm e
    ·exact h
   rw[List.filter_cons_of_pos (by simpa using e),List.length_cons,List.length_cons,ih hn.2 hm]
theorem bdrain_mem {dr:List ByteArray}{s z:ByteArray}{is:Bool}:z∈Lh.bdrain dr s is↔(z∈dr∧z≠s)∨(is=true∧z=s):=by
 unfold Lh.bdrain
 rw[List.mem_append,List.mem_filter]
 cases is<;>simp
theorem SetN.put {D:DataW Unit}{dr:List ByteArray}(h:SetN D dr)(ht:Tidy D)(hn:dr.Nodup)(s:ByteArray):SetN (D.put (.string s.data.toList) (.agg [])) (Lh.bdrain dr s true):=by
 refine⟨h.1.put _ _,?_,fun z=>?_⟩
 ·rw[size_put ht,h.2.2 s,h.2.1]
  unfold Lh.bdrain
  rw[List.length_append]
  by_cases hm:s∈dr
  ·have:=filter_len hn hm
   simp[hm]
   omega
  ·rw[filter_out hm]
   simp[hm]
 ·by_cases e:z=s
  ·subst e
   rw[has_put_same (k:=.string _) h.1 (by simp[WideAt.IsKeyLit])]
   simp[bdrain_mem]
  ·rw[has_put_other (strs_lit_ne e),h.2.2 z]
   simp[bdrain_mem,e]
theorem SetN.del {D:DataW Unit}{dr:List ByteArray}(h:SetN D dr)(ht:Tidy D)(hn:dr.Nodup)(s:ByteArray)(hm:IsMap (D.del (.string s.data.toList))):SetN (D.del (.string s.data.toList)) (Lh.bdrain dr s false):=by
 refine⟨hm,?_,fun z=>?_⟩
 ·have h1:=size_del (k:=.string s.data.toList) ht
  rw[h.2.2 s,h.2.1] at h1
  unfold Lh.bdrain
  rw[List.length_append]
  by_cases hm:s∈dr
  ·have:=filter_len hn hm
   simp[hm] at h1 ⊢
   omega
  ·rw[filter_out hm]
   simp[hm] at h1 ⊢
   omega
 ·by_cases e:z=s
  ·subst e
   rw[has_del_same]
   simp[bdrain_mem]
  ·rw[has_del_other (strs_lit_ne e),h.2.2 z]
   simp[bdrain_mem,e]
theorem bdrain_nodup {dr:List ByteArray}(hn:dr.Nodup)(s:ByteArray)(is:Bool):(Lh.bdrain dr s is).Nodup:=by
 unfold Lh.bdrain
 rw[List.nodup_append]
 refine⟨hn.sublist List.filter_sublist,by cases is<;>simp,fun x hx y hy=>?_⟩
 rw[List.mem_filter] at hx
 cases is
 ·cases hy
 ·have hy':y=s:=by simpa using hy
  have:=hx.2
  subst hy'
  simpa using this
theorem nodup_le:∀ {l m:List ByteArray},l.Nodup→(∀x∈l,x∈m)→l.length≤m.length
 | [],_,_,_=>Nat.zero_le _
 | a :: l,m,hn,hs=>by
  rw[List.nodup_cons] at hn
  have h1:l.length≤(m.filter fun x=>!decide (x=a)).length:=nodup_le hn.2 fun x hx=>List.mem_filter.2 ⟨hs x (by simp[hx]),by
   have:x≠a:=fun e=>hn.1 (e ▸ hx)
   simpa using this⟩
  have h2:(m.filter fun x=>!decide (x=a)).length<m.length:=List.length_filter_lt_length_iff_exists.2 ⟨a,hs a (by simp),by simp⟩
  rw[List.length_cons]
  omega
structure BR (W:World)(p hp fp fm db:Nat)(bs:List Nat)(lv:Value)(S:Lh.Bl):Prop where
 c0:W.cell? ⟨p,0,none⟩=some (.pointer (some ⟨hp,0,none⟩))
 c1:W.cell? ⟨p,1,none⟩=some (.map (some db))
 c2:W.cell? ⟨p,2,none⟩=some (.pointer (some ⟨fp,0,none⟩))
 c3:W.cell? ⟨p,3,none⟩=some (.int .i64 (S.size:Nat))
 c4:W.cell? ⟨p,4,none⟩=some (.int .i64 S.ep)
 fz:∀k,W.frozen? ⟨p,k,none⟩=false
 h:HR W hp S.f S.r S.hs bs lv
 f:FR W fp fm S.t S.la S.L
 d:∃D:DataW Unit,W.ownsMap Tryz.prog 9 unitElem db S.dr.length D∧SetN D S.dr
 dn:S.dr.Nodup
 dh:∀s∈S.dr,Lh.hix S.hs s<S.hs.length
 pd:p≠db
 ph:¬HFoot hp bs lv p
 pf:¬FFt fp fm p
 dbh:¬HFoot hp bs lv db
 dbf:¬FFt fp fm db
 hf:∀b,HFoot hp bs lv b→¬FFt fp fm b
def BFt (p hp fp fm db:Nat)(bs:List Nat)(lv:Value)(b:Nat):Prop:=b=p∨b=db∨HFoot hp bs lv b∨FFt fp fm b
section
variable {W W':World} {p hp fp fm db:Nat} {bs:List Nat} {lv:Value} {S:Lh.Bl}
theorem BR.plt (h:BR W p hp fp fm db bs lv S):p<W.heap.size:=World.block_lt_of_cell? W ⟨p,0,none⟩ h.c0
theorem BR.dlt (h:BR W p hp fp fm db bs lv S):db<W.heap.size:=by
 obtain⟨D,h,_⟩:=h.d
 exact h.lt
theorem BR.lt (h:BR W p hp fp fm db bs lv S):∀b,BFt p hp fp fm db bs lv b→b<W.heap.size:=by
 rintro b (rfl|rfl|hb|hb)
 ·exact h.plt
 ·exact h.dlt
 ·exact (h.h.lt b hb).1
 ·exact h.f.lt b hb
theorem BR.cells (h:BR W p hp fp fm db bs lv S)(e:W'.heap[p]?=W.heap[p]?):W'.cell? ⟨p,0,none⟩=some (.pointer (some ⟨hp,0,none⟩))∧W'.cell? ⟨p,1,none⟩=some (.map (some db))∧W'.cell? ⟨p,2,none⟩=some (.pointer (some ⟨fp,0,none⟩))∧W'.cell? ⟨p,3,none⟩=some (.int .i64 (S.size:Nat))∧W'.cell? ⟨p,4,none⟩=some (.int .i64 S.ep)∧∀k,W'.frozen? ⟨p,k,none⟩=false :=
 ⟨(World.cell?_of_block (w:=W) (w':=W') (a:=⟨p,0,none⟩) e).trans h.c0,(World.cell?_of_block (w:=W) (w':=W') (a:=⟨p,1,none⟩) e).trans h.c1,(World.cell?_of_block (w:=W) (w':=W') (a:=⟨p,2,none⟩) e).trans h.c2,(World.cell?_of_block (w:=W) (w':=W') (a:=⟨p,3,none⟩) e).trans h.c3,(World.cell?_of_block (w:=W) (w':=W') (a:=⟨p,4,none⟩) e).trans h.c4,fun k=>(World.frozen?_of_block (w:=W) (w':=W') (a:=⟨p,k,none⟩) e).trans (h.fz k)⟩
theorem BR.stay (h:BR W p hp fp fm db bs lv S)(hs:∀b,BFt p hp fp fm db bs lv b→W'.heap[b]?=W.heap[b]?):BR W' p hp fp fm db bs lv S:=by
 obtain⟨a0,a1,a2,a3,a4,a5⟩:=h.cells (hs p (Or.inl rfl))
 obtain⟨D,d1,d2⟩:=h.d
 exact⟨a0,a1,a2,a3,a4,a5,h.h.stay fun b hb=>hs b (Or.inr (Or.inr (Or.inl hb))),h.f.stay fun b hb=>hs b (Or.inr (Or.inr (Or.inr hb))),⟨D,ownsMap_later d1 (hs db (Or.inr (Or.inl rfl))),d2⟩,h.dn,h.dh,h.pd,h.ph,h.pf,h.dbh,h.dbf,h.hf⟩
theorem BR.later (h:BR W p hp fp fm db bs lv S)(hb:Below W.heap.size W W'):BR W' p hp fp fm db bs lv S:=h.stay fun b hf=>hb.block b (h.lt b hf)
theorem BR.flows (h:BR W p hp fp fm db bs lv S)(hT:Tur (FFt fp fm) W W'){la:Int}{L:List Lh.Fl}(hF:FR W' fp fm S.t la L):BR W' p hp fp fm db bs lv { S with la:=la,L:=L }:=by
 obtain⟨a0,a1,a2,a3,a4,a5⟩:=h.cells (hT.block p h.plt h.pf)
 obtain⟨D,d1,d2⟩:=h.d
 exact⟨a0,a1,a2,a3,a4,a5,h.h.stay fun b hb=>hT.block b (h.h.lt b hb).1 (h.hf b hb),hF,⟨D,ownsMap_later d1 (hT.block db h.dlt h.dbf),d2⟩,h.dn,h.dh,h.pd,h.ph,h.pf,h.dbh,h.dbf,h.hf⟩
theorem BR.health (h:BR W p hp fp fm db bs lv S)(hT:Tur (HFoot hp bs lv) W W'){l:List Lh.Hh}(hH:HR W' hp S.f S.r l bs lv)(hd:∀s∈S.dr,Lh.hix l s<l.length):BR W' p hp fp fm db bs lv { S with hs:=l }:=by
 obtain⟨a0,a1,a2,a3,a4,a5⟩:=h.cells (hT.block p h.plt h.ph)
 obtain⟨D,d1,d2⟩:=h.d
 exact⟨a0,a1,a2,a3,a4,a5,hH,h.f.stay fun b hb=>hT.block b (h.f.lt b hb) fun hg=>h.hf b hg hb,⟨D,ownsMap_later d1 (hT.block db h.dlt h.dbh),d2⟩,h.dn,hd,h.pd,h.ph,h.pf,h.dbh,h.dbf,h.hf⟩
theorem BR.map (h:BR W p hp fp fm db bs lv S)(hT:Tur (fun b=>b=db) W W'){dr:List ByteArray}(hn:dr.Nodup)(hd:∀s∈dr,Lh.hix S.hs s<S.hs.length)(hD:∃D:DataW Unit,W'.ownsMap Tryz.prog 9 unitElem db dr.length D∧SetN D dr):BR W' p hp fp fm db bs lv { S with dr:=dr }:=by
 obtain⟨a0,a1,a2,a3,a4,a5⟩:=h.cells (hT.block p h.plt h.pd)
 exact⟨a0,a1,a2,a3,a4,a5,h.h.stay fun b hb=>hT.block b (h.h.lt b hb).1 fun e=>h.dbh (e ▸ hb),h.f.stay fun b hb=>hT.block b (h.f.lt b hb) fun e=>h.dbf (e ▸ hb),hD,hn,hd,h.pd,h.ph,h.pf,h.dbh,h.dbf,h.hf⟩
theorem BR.epoch (h:BR W p hp fp fm db bs lv S)(e:Int):BR (W.setCell ⟨p,4,none⟩ (.int .i64 e)) p hp fp fm db bs lv { S with ep:=e }:=by
 have ho:∀b,b≠p→(W.setCell ⟨p,4,none⟩ (.int .i64 e)).heap[b]?=W.heap[b]?:=fun b hb=>Below.heap_setCell _ _ _ b hb
 obtain⟨D,d1,d2⟩:=h.d
 refine⟨?_,?_,?_,?_,World.cell?_setCell_same' _ _ _ (by rw[h.c4];rfl),fun k=>by rw[World.frozen?_setCell];exact h.fz k,h.h.stay fun b hb=>ho b fun e=>h.ph (e ▸ hb),h.f.stay fun b hb=>ho b fun e=>h.pf (e ▸ hb),⟨D,ownsMap_later d1 (ho db fun e=>h.pd e.symm),d2⟩,h.dn,h.dh,h.pd,h.ph,h.pf,h.dbh,h.dbf,h.hf⟩
 ·rw[World.cell?_setCell_other _ _ _ _ (by simp)];exact h.c0
 ·rw[World.cell?_setCell_other _ _ _ _ (by simp)];exact h.c1
 ·rw[World.cell?_setCell_other _ _ _ _ (by simp)];exact h.c2
 ·rw[World.cell?_setCell_other _ _ _ _ (by simp)];exact h.c3
theorem BR.drLen (h:BR W p hp fp fm db bs lv S)(hl:S.hs.length≤12):S.dr.length≤12:=by
 refine Nat.le_trans (nodup_le (m:=S.hs.map fun x=>x.1) h.dn fun x hx=>?_) (by rw[List.length_map];exact hl)
 obtain⟨y,hy,rfl⟩:=Lh.hix_lt.1 (h.dh x hx)
 exact List.mem_map_of_mem hy
theorem Tur.flows (h:Tur (FFt fp fm) W W'):Tur (BFt p hp fp fm db bs lv) W W':=h.wide fun _ hb=>Or.inr (Or.inr (Or.inr hb))
theorem Tur.health (h:Tur (HFoot hp bs lv) W W'):Tur (BFt p hp fp fm db bs lv) W W':=h.wide fun _ hb=>Or.inr (Or.inr (Or.inl hb))
theorem Tur.map (h:Tur (fun b=>b=db) W W'):Tur (BFt p hp fp fm db bs lv) W W':=h.wide fun _ hb=>Or.inr (Or.inl hb)
end
end Go.Proofs.YtfhmfjcpggddkaaGreatDoor
