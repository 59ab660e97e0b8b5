/- The law ScriptAgain, over the landed package's contract. -/
import Derived.Test.YtfhmfjcpggddkaaGreatDoorM27
import Derived.Test.YtfhmfjcpggddkaaGreatDoorM12
set_option maxHeartbeats 20000000
set_option maxRecDepth 100000
namespace Go.Proofs.YtfhmfjcpggddkaaGreatDoor
open Go.RowKit Lh
structure Ln where
 w:ByteArray
 H:List ByteArray
 N:List Int
def LnsAt (W:World)(p:Option Addr)(l:List Ln):Prop:=∀k (h:k<l.length),∃b o hv nv,p=some ⟨b,o,none⟩∧W.cell? ⟨b,o+k*3,none⟩=some (.string l[k].w)∧W.cell? ⟨b,o+k*3+1,none⟩=some hv∧W.cell? ⟨b,o+k*3+2,none⟩=some nv∧Strs1 W hv l[k].H∧Ints W nv l[k].N
structure LnOk (x:Ln):Prop where
 w:x.w.size≤maxLen
 hl:x.H.length≤maxLen
 hs:∀k (h:k<x.H.length),(x.H[k]).size≤maxLen
 nl:x.N.length≤maxLen
theorem line_size {c:Cm}{hh:Int}{n:Nat}(h:CmOk c hh n)(hw:c.w.length≤60)(hl:c.H.length≤30)(hn:c.N.length≤5):(bt (lineL c)).size≤5000:=by
 rw[bt_size]
 have h1:∀x∈c.H.map tx,x.length≤12:=fun x hx=>by
  obtain⟨s,hs,rfl⟩:=List.mem_map.1 hx
  exact (nm_word (h.nm s hs)).2.2.2
 have h2:∀x∈c.N.map decL,x.length≤7:=fun x hx=>by
  obtain⟨k,hk,rfl⟩:=List.mem_map.1 hx
  exact decL_len (by decide) (by have:=h.hi k hk;omega)
 have f1:=flatB_len h1
 have f2:=flatB_len h2
 rw[List.length_map] at f1 f2
 have g1:c.H.length*(12+1)≤30*13:=Nat.mul_le_mul hl (by decide)
 have g2:c.N.length*(7+1)≤5*8:=Nat.mul_le_mul hn (by decide)
 unfold lineL wordsOf
 split
 ·rw[join_flat]
  have e:flatB (c.N.map decL++c.H.map fun s=>s.data.toList)=flatB (c.N.map decL)++flatB (c.H.map tx):=by
   unfold flatB
   rw[List.flatMap_append]
   rfl
  rw[e,List.length_append,List.length_append]
  omega
 ·rw[join_flat]
  have e:flatB ((c.H.map fun s=>s.data.toList)++c.N.map decL)=flatB (c.H.map tx)++flatB (c.N.map decL):=by
   unfold flatB
   rw[List.flatMap_append]
   rfl
  rw[e,List.length_append,List.length_append]
  omega
theorem orElse_any (e:Nat)(he:e≤9)(s:ByteArray)(W:World):Calls Tryz.prog 23 #[.int .i64 (e:Nat),.string s] W fun r w'=>r=.returned (.string (if e=0 then s else bt (errT e)))∧Below W.heap.size W w':=by
 by_cases h:e=0
 ·subst h
  rw[if_pos rfl]
  go_enter Tryz.func23,Tryz.ntmps23
  go_wp2
  go_ret
  exact⟨rfl,Below.refl _ _⟩
 ·rw[if_neg h]
  have d:0<e:=by omega
  have het:=errorText_any e (by omega) he W
  clear h
  generalize bt (errT e)=t at *
  go_enter Tryz.func23,Tryz.ntmps23
  go_wp2_with fail
  refine het.mono ?_
  rintro r w1 ⟨rfl,hb1⟩
  clear het
  go_wp2
  go_ret
  exact⟨rfl,hb1⟩
theorem joinS_snoc {y:List UInt8}:∀ {ws:List (List UInt8)},ws≠[]→∀x,joinS y (ws++[x])=joinS y ws++(y++x)
 | [],h,_=>absurd rfl h
 | [w],_,x=>rfl
 | u :: v :: ws,_,x=>by
  have:=joinS_snoc (y:=y) (ws:=v :: ws) (by simp) x
  show u++(y++joinS y (v :: (ws++[x])))=u++(y++joinS y (v :: ws))++(y++x)
  have e:v :: (ws++[x])=(v :: ws)++[x]:=rfl
  rw[e,this]
  simp
theorem joinS_len {y:List UInt8}{m:Nat}:∀ {ws:List (List UInt8)},(∀x∈ws,x.length≤m)→(joinS y ws).length≤ws.length*(m+y.length)
 | [],_=>by simp[joinS]
 | [w],h=>by
  have:=h w (by simp)
  show w.length≤1*(m+y.length)
  omega
 | u :: v :: ws,h=>by
  have h1:=joinS_len (y:=y) (ws:=v :: ws) fun z hz=>h z (by simp[hz])
  have h2:=h u (by simp)
  have h3:(joinS y (u :: v :: ws)).length=u.length+(y.length+(joinS y (v :: ws)).length):=by simp[joinS]
  rw[h3,List.length_cons,Nat.succ_mul]
  omega
theorem joinL_joinS (y:UInt8):∀(ws:List (List UInt8)),joinL y ws=joinS [y] ws
 | []=>rfl
 | [w]=>rfl
 | u :: v :: ws=>by
  have:=joinL_joinS y (v :: ws)
  show u++y :: joinL y (v :: ws)=u++([y]++joinS [y] (v :: ws))
  rw[this]
  rfl
theorem joined_any (v:Value)(xs:List ByteArray)(y:ByteArray)(W:World)(hv:Strs1 W v xs)(hl:xs.length≤1000)(hs:∀s∈xs,s.size≤1000)(hy:y.size≤10) :
  Calls Tryz.prog 27 #[v,.string y] W fun r w'=>r=.returned (.string (bt (joinedS (tx y) (xs.map tx))))∧Below W.heap.size W w':=by
 obtain⟨p,c,rfl,hx⟩:=strs1_sl hv
 by_cases h0:xs=[]
 ·subst h0
  clear hv hx
  go_enter Tryz.func27,Tryz.ntmps27
  go_wp2
  go_ret
  exact⟨rfl,Below.refl _ _⟩
 ·have hpos:0<xs.length:=List.length_pos_iff.2 h0
  have HJ:Hid (joinedS (tx y) (xs.map tx)=joinS (tx y) (xs.map tx)):=if_neg (by simpa using h0)
  have HX:Hid (∀j (h:j<xs.length),∃b o,p=some ⟨b,o,none⟩∧W.cell? ⟨b,o+j,none⟩=some (.string xs[j])):=hx
  have HSZ:Hid (∀s∈xs,s.size≤1000):=hs
  obtain⟨b,o,rfl,c0⟩:=hx 0 hpos
  rw[Nat.add_zero] at c0
  have hl0:((xs.length:Int)==0)=false:=by rw[beq_eq_false_iff_ne];omega
  have hli:(0:Int)<(xs.length:Int):=by omega
  have HLEN:Hid (∀j,(bt (joinS (tx y) ((xs.take j).map tx))).size≤1010000):=fun j=>by
   rw[bt_size]
   have h1:=joinS_len (y:=tx y) (m:=1000) (ws:=(xs.take j).map tx) fun x hx=>by
    obtain⟨s,hs',rfl⟩:=List.mem_map.1 hx
    exact hs s (List.mem_of_mem_take hs')
   rw[List.length_map,List.length_take] at h1
   have h2:min j xs.length*(1000+(tx y).length)≤1000*1010:=Nat.mul_le_mul (by omega) (by have:(tx y).length=y.size:=rfl;omega)
   omega
  have H1:Hid (xs[0]'hpos=bt (joinS (tx y) ((xs.take 1).map tx))):=by
   show _=_
   match xs,hpos with
   | s :: l,_=>exact (bt_back s).symm
  rw[HJ.out]
  clear hv hx hs h0
  go_enter Tryz.func27,Tryz.ntmps27
  go_wp2_with fail
  go_loopw [5,6] (fun u5 u6 W'=>W'=W∧∃j:Nat,1≤j∧j≤xs.length∧u6=.int .i64 (j:Nat)∧u5=.string (bt (joinS (tx y) ((xs.take j).map tx)))) (fun _ u6 _=>xs.length - (intOf u6).toNat)
  case atStart=>exact⟨rfl,1,Nat.le_refl _,hpos,rfl,congrArg Value.string H1.out⟩
  case round =>
   obtain⟨rfl,j,hj1,hj,rfl,rfl⟩:=hrel
   by_cases hlt:j<xs.length
   ·have hji:(j:Int)<(xs.length:Int):=by omega
    obtain⟨b',o',hp,ck⟩:=HX.out j hlt
    injection hp with hp
    injection hp with hp1 hp2
    subst hp1
    subst hp2
    have hlen:=HLEN.out j
    have hs1:=HSZ.out (xs[j]'hlt) (List.getElem_mem hlt)
    have HN:Hid (bt (joinS (tx y) ((xs.take j).map tx))++y++xs[j]'hlt=bt (joinS (tx y) ((xs.take (j+1)).map tx))):=by
     show _=_
     have e1:xs[j]'hlt=bt (tx (xs[j]'hlt)):=(bt_back _).symm
     have e2:y=bt (tx y):=(bt_back _).symm
     rw[List.take_succ_eq_append_getElem hlt,List.map_append,List.map_cons,List.map_nil,joinS_snoc (by
      intro e
      have:=congrArg List.length e
      rw[List.length_map,List.length_take,List.length_nil] at this
      omega)]
     conv=>lhs;rw[e1];arg 1;arg 2;rw[e2]
     rw[bt_append,bt_append,List.append_assoc]
    generalize bt (joinS (tx y) ((xs.take j).map tx))=acc at *
    generalize xs[j]'hlt=s at *
    go_wp2
    exact⟨⟨by trivial,j+1,by omega,by omega,by go_num,congrArg Value.string HN.out⟩,by simp[intOf];omega⟩
   ·obtain rfl:j=xs.length:=by omega
    have hd:decide ((xs.length:Int)<(xs.length:Int))=false:=by simp
    rw[List.take_length]
    go_wp2
    go_ret
    exact⟨rfl,Below.refl _ _⟩
end Go.Proofs.YtfhmfjcpggddkaaGreatDoor
namespace Go.Proofs.YtfhmfjcpggddkaaGreatDoor
open Go.RowKit
theorem evOf_is {a:Nat→Addr}{W:World}{c:Nat}{ev:Value}(h:EvOf a c ev)(hc:c≤9):ErrIs a W c (-1) ev:=by
 rcases h with⟨rfl,rfl⟩|⟨j,rfl,rfl⟩
 ·exact Or.inl ⟨rfl,rfl,rfl⟩
 ·exact Or.inr ⟨j,by omega,rfl,Or.inl ⟨rfl,rfl⟩⟩
theorem pickR_c {nw:List ByteArray→Nat→Nat→ByteArray}{S S':Lh.Bl}{k:Nat}{now:Int}{s:ByteArray}{kept:Bool}{c:Nat}(h:PickR nw S k now S' s kept c):c≤9:=by
 rcases h with⟨j,hf,_,_,_,rfl⟩|⟨_,_,_,rfl,_⟩|⟨_,_,_,_,_,rfl,_⟩|⟨_,_,_,_,_,rfl,_⟩
 ·rcases hf with⟨_,rfl⟩|⟨_,_,_,rfl⟩<;>decide
 all_goals decide
theorem lookR_c {S S':Lh.Bl}{s:ByteArray}{w t:Bool}{c:Nat}(h:LookR S s w S' t c):c≤9:=by
 rcases h with⟨_,_,rfl,_⟩|⟨_,_,rfl,_⟩<;>decide
theorem drainR_c {S S':Lh.Bl}{s:ByteArray}{w:Bool}{c:Nat}(h:DrainR S s w S' c):c≤9:=by
 rcases h with⟨_,rfl,_⟩|⟨_,rfl,_⟩<;>decide
theorem exportR_c {S S':Lh.Bl}{s:ByteArray}{c:Nat}(h:ExportR S S' s c):c≤9:=by
 rcases h with⟨_,_,rfl,_⟩|⟨_,_,rfl,_⟩<;>decide
theorem Tur.wideP {F G:Nat→Prop}{w w1:World}(h:Tur F w w1)(hG:∀b,F b→G b):Tur G w w1:=⟨h.os,h.tape,h.output,h.size,fun k hk hf=>h.block k hk fun hb=>hf (hG k hb)⟩
theorem tur_setP (W:World)(g i:Nat)(v:Value):Tur (fun b=>b=g) W (W.setCell ⟨g,i,none⟩ v) :=
 ⟨rfl,rfl,rfl,by simp[World.setCell],fun j _ hf=>heap_setCell_other W ⟨g,i,none⟩ j v fun e=>hf e⟩
end Go.Proofs.YtfhmfjcpggddkaaGreatDoor
namespace Go.Proofs.YtfhmfjcpggddkaaGreatDoor
open Go.RowKit Lh
theorem join_lib (y:List UInt8):∀ws:List (List UInt8),Lib.join ws y=joinS y ws
 | []=>rfl
 | [w]=>Lib.join_one w y
 | u :: v :: ws=>by
  have h:=join_lib y (v :: ws)
  rw[Lib.join_cons] at h ⊢
  show u++((y++v)++Lib.joinTail y ws)=u++(y++joinS y (v :: ws))
  rw[←h,List.append_assoc]
theorem tx_bt (l:List UInt8):tx (bt l)=l:=rfl
theorem joinT_any (v:Value)(xs:List ByteArray)(y:ByteArray)(W:World)(hv:Strs1 W v xs)(hl:xs.length≤1000)(hs:∀s∈xs,s.size≤1000)(hy:y.size≤10) :
  Calls Tryz.prog 42 #[v,.string y] W fun r w'=>r=.returned (.string (bt (joinS (tx y) (xs.map tx))))∧Below W.heap.size W w':=by
 have hlen:(joinS (tx y) (xs.map tx)).length≤140737488355328:=by
  have h1:∀x∈xs.map tx,x.length≤1000:=by
   intro x hx
   obtain⟨s,hs',rfl⟩:=List.mem_map.1 hx
   have h5:=hs s hs'
   rw[Lib.size_eq] at h5
   exact h5
  have h2:=joinS_len (y:=tx y) h1
  have h3:(tx y).length≤10:=by
   have h5:=hy
   rw[Lib.size_eq] at h5
   exact h5
  rw[List.length_map] at h2
  have h4:xs.length*(1000+(tx y).length)≤1000*1010:=Nat.mul_le_mul hl (by omega)
  omega
 rcases hv with⟨rfl,rfl|⟨ad,c,rfl⟩⟩|⟨b,o,c,rfl,hcap,hc⟩
 ·exact (Any.strings_Join_none lays156 Builder_Extra_156 none 0 y W).mono fun e w' ⟨he,hw⟩=>⟨he,hw ▸ Below.refl _ _⟩
 ·exact (Any.strings_Join_none lays156 Builder_Extra_156 (some ad) c y W).mono fun e w' ⟨he,hw⟩=>⟨he,hw ▸ Below.refl _ _⟩
 ·by_cases h0:xs=[]
  ·subst h0
   exact (Any.strings_Join_none lays156 Builder_Extra_156 (some ⟨b,o,none⟩) c y W).mono fun e w' ⟨he,hw⟩=>⟨he,hw ▸ Below.refl _ _⟩
  ·have e:Lib.join (xs.map (·.data.toList)) y.data.toList=joinS (tx y) (xs.map tx):=join_lib _ _
   have h:=Any.strings_Join lays156 Builder_Extra_156 b o c xs y W (fun j s hj=>by
    obtain⟨hj',rfl⟩:=List.getElem?_eq_some_iff.1 hj
    exact hc j hj') (World.block_lt_of_cell? W _ (hc 0 (List.length_pos_iff.2 h0))) (by omega) hcap (by rw[e];exact hlen)
   rw[e] at h
   exact h
theorem listed_any (v:Value)(xs:List ByteArray)(y:ByteArray)(W:World)(hv:Strs1 W v xs)(hl:xs.length≤1000)(hs:∀s∈xs,s.size≤1000)(hy:y.size≤10) :
  Calls Tryz.prog 54 #[v,.string y] W fun r w'=>r=.returned (.string (bt (joinedS (tx y) (xs.map tx))))∧Below W.heap.size W w':=by
 obtain⟨p,c,rfl,_⟩:=strs1_sl hv
 have hj:=joinT_any _ xs y W hv hl hs hy
 by_cases h0:xs=[]
 ·subst h0
  go_enter Tryz.func54,Tryz.ntmps54
  go_wp2
  go_ret
  exact⟨rfl,Below.refl _ _⟩
 ·have hp:=List.length_pos_iff.2 h0
  have hne:((xs.length:Int)==0)=false:=by rw[beq_eq_false_iff_ne];omega
  have hne2:¬xs.length=0:=by omega
  have HR:Hid (joinedS (tx y) (xs.map tx)=joinS (tx y) (xs.map tx)):=by
   show _=_
   unfold joinedS
   rw[if_neg (by simpa using h0)]
  clear h0 hp hs hv
  go_enter Tryz.func54,Tryz.ntmps54
  go_wp2_with fail
  refine hj.mono ?_
  rintro e w' ⟨rfl,hb⟩
  go_wp2
  go_ret
  exact⟨by rw[HR.out];rfl,hb⟩
theorem either_any (is:Bool)(x y:ByteArray)(W:World):Calls Tryz.prog 49 #[.bool is,.string x,.string y] W fun e w'=>e=.returned (.string (if is then x else y))∧w'=W:=by
 cases is
 ·go_enter Tryz.func49,Tryz.ntmps49
  go_wp2
  go_ret
  exact⟨rfl,rfl⟩
 ·go_enter Tryz.func49,Tryz.ntmps49
  go_wp2
  go_ret
  exact⟨rfl,rfl⟩
theorem digits_any {a:Nat→Addr}(n:Nat)(hn:n≤9223372036854775807)(ev:Value)(w:World)(he:EC a w):Calls Tryz.prog 36 #[.int .i64 (n:Nat),ev] w fun e w'=>e=.returned (.tuple #[.string (bt (decL n)),ev])∧Below w.heap.size w w':=by
 have h:=itoa_any n hn w he
 go_enter Tryz.func36,Tryz.ntmps36
 go_wp2_with fail
 refine h.mono ?_
 rintro e w' ⟨rfl,hb⟩
 go_wp2
 go_ret2
 exact⟨rfl,hb⟩
def AnsE (a:Nat→Addr)(W':World)(ans:List UInt8)(e:Ending):Prop:=∃tv ev c pl,e=.returned (.tuple #[.string tv,ev])∧ErrIs a W' c pl ev∧((c=0∧tv=bt ans)∨(c≠0∧ans=errT c∧Told (c - 1)))
theorem ansE_ok {a:Nat→Addr}{W':World}{ans:List UInt8}{tv:ByteArray}(h:tv=bt ans):AnsE a W' ans (.returned (.tuple #[.string tv,.nilIface])):=⟨tv,.nilIface,0,-1,rfl,Or.inl ⟨rfl,rfl,rfl⟩,Or.inl ⟨rfl,h⟩⟩
theorem ansE_err {a:Nat→Addr}{W':World}{c:Nat}{pl:Int}{ev:Value}{tv:ByteArray}(h:ErrIs a W' c pl ev)(h0:c≠0)(ht:Told (c - 1)):AnsE a W' (errT c) (.returned (.tuple #[.string tv,ev])):=⟨tv,ev,c,pl,rfl,h,Or.inr ⟨h0,rfl,ht⟩⟩
theorem ansE_ev {a:Nat→Addr}{W':World}{c:Nat}{ev:Value}{ans:List UInt8}{tv:ByteArray}(h:EvOf a c ev)(hc:c≤9)(h7:c≠7)(h9:c≠9)(ht:c=0→tv=bt ans):AnsE a W' (if c=0 then ans else errT c) (.returned (.tuple #[.string tv,ev])):=by
 by_cases h0:c=0
 ·rw[if_pos h0]
  exact⟨tv,ev,c,-1,rfl,evOf_is h hc,Or.inl ⟨h0,ht h0⟩⟩
 ·rw[if_neg h0]
  exact⟨tv,ev,c,-1,rfl,evOf_is h hc,Or.inr ⟨h0,rfl,errTold hc h7 h9⟩⟩
def CmdE (w0:World)(a:Nat→Addr)(p q m:Nat)(F:Nat→Prop)(st:Option Sc)(c:Cm)(W:World)(e:Ending)(W':World):Prop :=
 ∃st' F' ans,CmR nwB st c st' ans∧AnsE a W' ans e∧PlC w0 a p q m F' W'∧PlIs st' F' p W'∧(∀b,F' b→F b∨W.heap.size≤b)∧Tur (fun b=>F b∨b=p) W W'
section
variable {w0 W wa W':World} {a:Nat→Addr} {p q m r g cap:Nat} {F F':Nat→Prop} {S:Sc}
theorem cmd_turned (hP:PlC w0 a p q m F W)(hY:PlY S F p r g cap W)(hn:S.hosts≠[])(hba:Below W.heap.size W wa)(hT:Tur F wa W')(hF:∀b,F' b→F b∨wa.heap.size≤b){b':Bl}(hR:RepB b' F' r W') :
  PlC w0 a p q m F' W'∧PlIs (some { S with b:=b' }) F' p W'∧(∀b,F' b→F b∨W.heap.size≤b)∧Tur (fun b=>F b∨b=p) W W':=by
 have hpF:¬F p:=fun h=>(hP.F0 p h).2.1 rfl
 have hPa:=hP.later hba
 have hYa:=hY.later hpF hn hba
 have hT':Tur (fun b=>F b∨b=p) wa W':=hT.wideP fun b hb=>Or.inl hb
 refine⟨hPa.tur hT' hF fun k=>(World.frozen?_of_block (w:=wa) (w':=W') (a:=⟨p,k,none⟩) (hT.block p hPa.pl hpF)).trans (hPa.fz k),Or.inr ⟨_,r,g,cap,rfl,hYa.turned hpF hn hT hF hR⟩,fun b hb=>?_,(Tur.of_below hba).trans hT' fun b hb=>Or.inl hb⟩
 rcases hF b hb with h|h
 ·exact Or.inl h
 ·exact Or.inr (Nat.le_trans hba.size h)
theorem cmd_below (hP:PlC w0 a p q m F W)(hY:PlY S F p r g cap W)(hn:S.hosts≠[])(hb:Below W.heap.size W W') :
  PlC w0 a p q m F W'∧PlIs (some S) F p W'∧(∀b,F b→F b∨W.heap.size≤b)∧Tur (fun b=>F b∨b=p) W W' :=
 ⟨hP.later hb,Or.inr ⟨S,r,g,cap,rfl,hY.later (fun h=>(hP.F0 p h).2.1 rfl) hn hb⟩,fun _ h=>Or.inl h,Tur.of_below hb⟩
end
theorem nums_at {W:World}{B:Nat}{vn:Value}{N:List Nat}(h:W.ownsRow B 3 1 vn N.length (N.map fun n=>.int .i64 (n:Nat)))(hn:0<N.length):∃nb cn,vn=.slice (some ⟨nb,0,none⟩) N.length cn∧B≤nb∧N.length≤cn∧∀i (hi:i<N.length),W.cell? ⟨nb,i,none⟩=some (.int .i64 (N[i]:Nat)):=by
 have hc:=fun g=>h.cells (g:=g)
 rcases h.2 with⟨_,h0⟩|⟨g,cap,cur,rfl,hb,_,hle,_⟩
 ·omega
 ·refine⟨g,cap,rfl,hb,hle,fun i hi=>?_⟩
  have:=hc g rfl i (.int .i64 (N[i]:Nat)) (by simp[hi])
  simpa [Lib.add_plain] using this
theorem hosts_at {W:World}{B:Nat}{vh:Value}{H:List ByteArray}(h:W.ownsRow B 9 1 vh H.length (H.map Value.string))(hn:0<H.length):∃hb ch,vh=.slice (some ⟨hb,0,none⟩) H.length ch∧B≤hb∧H.length≤ch∧∀i (hi:i<H.length),W.cell? ⟨hb,i,none⟩=some (.string H[i]):=by
 have hc:=fun g=>h.cells (g:=g)
 rcases h.2 with⟨_,h0⟩|⟨g,cap,cur,rfl,hb,_,hle,_⟩
 ·omega
 ·refine⟨g,cap,rfl,hb,hle,fun i hi=>?_⟩
  have:=hc g rfl i (.string H[i]) (by simp[hi])
  simpa [Lib.add_plain] using this
theorem cl_tick (w0 W:World)(a:Nat→Addr)(p q m:Nat)(F:Nat→Prop)(S:Sc)(r g cap j:Nat)(hP:PlC w0 a p q m F W)(hY:PlY S F p r g cap W)(hS:SB S j)(hj:j≤100)(nb cn k:Nat)(vh:Value)(hk:W.cell? ⟨nb,0,none⟩=some (.int .i64 (k:Nat)))(hk9:k≤9999999)(hvh:∃x n c,vh=.slice x n c) :
  Calls Tryz.prog 52 #[.agg #[.slice (some ⟨nb,0,none⟩) 1 cn,vh],.pointer (some ⟨q,0,none⟩)] W (CmdE w0 a p q m F (some S) ⟨wTick,[],[k]⟩ W):=by
 obtain⟨vx,vl,vc,rfl⟩:=hvh
 have hn:=hS.ok.ne
 have hpF:¬F p:=fun h=>(hP.F0 p h).2.1 rfl
 obtain⟨wa,hwa⟩:∃wa,wa=W.alloc (.cells #[.slice (some ⟨nb,0,none⟩) 1 cn,.slice vx vl vc] 83):=⟨_,rfl⟩
 have hba:Below W.heap.size W wa:=by rw[hwa];exact (Below.refl _ _).alloc (Nat.le_refl _) _
 have hPa:=hP.later hba
 have hYa:=hY.later hpF hn hba
 have HBA:Hid (Below W.heap.size W wa):=hba
 have k0:wa.cell? ⟨W.heap.size,0,none⟩=some (.slice (some ⟨nb,0,none⟩) 1 cn):=by rw[hwa];simp
 have k1:wa.cell? ⟨W.heap.size,1,none⟩=some (.slice vx vl vc):=by rw[hwa];simp
 have kq:=hPa.q0
 have c0:=hYa.c0
 have c1:=hYa.c1
 have c2:=hYa.c2
 have nk:=below_cell hba hk
 have fz:=hPa.fz 2
 have h0:=hS.n0
 have h9:=hS.n9
 have hwr:IntKind.i64.wrap (S.now+(k:Int))=S.now+(k:Int):=by
  rw[IntKind.wrap_i64]
  omega
 have HEND:Hid (CmdE w0 a p q m F (some S) ⟨wTick,[],[k]⟩ W (.returned (.tuple #[.string ⟨#[111,107]⟩,.nilIface])) (wa.drew.setCell ⟨p,2,none⟩ (.int .i64 (S.now+(k:Int))))):=by
  have hbd:Below wa.heap.size wa wa.drew:=below_drewN (Below.refl _ _) 1
  have hPd:=hPa.later hbd
  have hYd:=hYa.later hpF hn hbd
  have hT:Tur (fun b=>b=p) wa.drew (wa.drew.setCell ⟨p,2,none⟩ (.int .i64 (S.now+(k:Int)))):=tur_setP _ p 2 _
  have hT2:Tur (fun b=>F b∨b=p) wa.drew (wa.drew.setCell ⟨p,2,none⟩ (.int .i64 (S.now+(k:Int)))):=hT.wideP fun b hb=>Or.inr hb
  have hgl:=hYd.glt hn
  refine⟨some { S with now:=S.now+(k:Nat) },F,tOk,Or.inr (Or.inr (Or.inr ⟨show wTick≠wHosts by decide,show wTick≠wJump by decide,S,rfl,Or.inl ⟨_,Or.inr (Or.inr (Or.inr (Or.inl ⟨rfl,k,rfl,rfl,rfl⟩))),rfl⟩⟩)),ansE_ok rfl,hPd.tur hT2 (fun _ h=>Or.inl h) (fun i=>by rw[World.frozen?_setCell];exact hPd.fz i),Or.inr ⟨_,r,g,cap,rfl,?_⟩,fun _ h=>Or.inl h,(Tur.of_below (below_then hba hbd)).trans hT2 fun b hb=>Or.inl hb⟩
  refine⟨?_,?_,World.cell?_setCell_same' _ _ _ (by rw[hYd.c2];rfl),hYd.rep.stay fun b hf=>hT.block b (hYd.rep.lt b hf) fun e=>hpF (e ▸ hf),fun i hi=>?_,hYd.cp,hYd.gF,hYd.gp,hYd.gl⟩
  ·rw[World.cell?_setCell_other _ _ _ _ (by simp)]
   exact hYd.c0
  ·rw[World.cell?_setCell_other _ _ _ _ (by simp)]
   exact hYd.c1
  ·exact foot_cellS hT hYd.gp (hYd.hst i hi)
 clear hP hY hPa hYa hS hba hk
 go_enter Tryz.func52,Tryz.ntmps52
 go_wp2_with fail
 rw[←hwa]
 clear hwa
 go_region
 go_wp2
 go_ret2
 exact HEND.out
theorem cl_up (w0 W:World)(a:Nat→Addr)(p q m:Nat)(F:Nat→Prop)(S:Sc)(r g cap j:Nat)(hP:PlC w0 a p q m F W)(hY:PlY S F p r g cap W)(hS:SB S j)(vn vh:Value)(hvn:∃x n c,vn=.slice x n c)(hvh:∃x n c,vh=.slice x n c) :
  Calls Tryz.prog 53 #[.agg #[vn,vh],.pointer (some ⟨q,0,none⟩)] W (CmdE w0 a p q m F (some S) ⟨wUp,[],[]⟩ W):=by
 obtain⟨ux,ul,uc,rfl⟩:=hvn
 obtain⟨vx,vl,vc,rfl⟩:=hvh
 have hn:=hS.ok.ne
 have hpF:¬F p:=fun h=>(hP.F0 p h).2.1 rfl
 obtain⟨wa,hwa⟩:∃wa,wa=W.alloc (.cells #[.slice ux ul uc,.slice vx vl vc] 83):=⟨_,rfl⟩
 have hba:Below W.heap.size W wa:=by rw[hwa];exact (Below.refl _ _).alloc (Nat.le_refl _) _
 have hPa:=hP.later hba
 have hYa:=hY.later hpF hn hba
 have HBA:Hid (Below W.heap.size W wa):=hba
 have k0:wa.cell? ⟨W.heap.size,0,none⟩=some (.slice ux ul uc):=by rw[hwa];simp
 have k1:wa.cell? ⟨W.heap.size,1,none⟩=some (.slice vx vl vc):=by rw[hwa];simp
 have kq:=hPa.q0
 have c0:=hYa.c0
 have c1:=hYa.c1
 have c2:=hYa.c2
 have hu:=up_bal S.b F r wa hYa.rep hS.ok.ok
 have hpm:∀s∈hups S.b.hs,s.size≤1000:=fun s hs=>by
  obtain⟨x,hx,rfl⟩:∃x∈S.b.hs,x.1=s:=by
   unfold hups at hs
   obtain⟨x,hx,e⟩:=List.mem_map.1 hs
   exact⟨x,(List.mem_filter.1 hx).1,e⟩
  have:=(nm_word (hS.ok.ok.nm x hx)).2.2.2
  omega
 have hul:(hups S.b.hs).length≤1000:=by
  have h1:=List.length_filter_le (fun x:Hh=>x.2.1) S.b.hs
  have h2:=hS.ok.ok.h.len
  have h3:(hups S.b.hs).length≤S.b.hs.length:=by simpa [hups] using h1
  omega
 have HJ:Hid (∀w' v,Strs1 w' v (hups S.b.hs)→Calls Tryz.prog 54 #[v,.string ⟨#[32]⟩] w' fun r w''=>r=.returned (.string (bt (joinedS [32] ((hups S.b.hs).map tx))))∧Below w'.heap.size w' w''):=fun w' v hv=>listed_any v _ ⟨#[32]⟩ w' hv hul hpm (by decide)
 have HEND:Hid (∀w',Below wa.heap.size wa w'→CmdE w0 a p q m F (some S) ⟨wUp,[],[]⟩ W (.returned (.tuple #[.string (bt (joinedS [32] ((hups S.b.hs).map tx))),.nilIface])) w'):=fun w' hb=>by
  obtain⟨q1,q2,q3,q4⟩:=cmd_below hP hY hn (below_then hba hb)
  exact⟨some S,F,_,Or.inr (Or.inr (Or.inr ⟨by decide,by decide,S,rfl,Or.inl ⟨_,Or.inr (Or.inr (Or.inr (Or.inr (Or.inl ⟨rfl,rfl,rfl⟩)))),rfl⟩⟩)),ansE_ok rfl,q1,q2,q3,q4⟩
 generalize bt (joinedS [32] ((hups S.b.hs).map tx))=ans at *
 generalize hups S.b.hs=us at *
 clear hP hY hPa hYa hS hba hpm hul
 have kqW:=kq
 have c0W:=c0
 rw[hwa] at kqW c0W
 go_enter Tryz.func53,Tryz.ntmps53
 go_wp2_with fail
 rw[←hwa]
 clear hwa kqW c0W
 refine hu.mono ?_
 rintro e w1 ⟨v,rfl,hv,hb1⟩
 have hli:=HJ.out w1 v hv
 obtain⟨pv,cv,rfl,_⟩:=strs1_sl hv
 have HB1:Hid (Below wa.heap.size wa w1):=hb1
 clear hu hv hb1
 go_wp2_with fail
 refine hli.mono ?_
 rintro e w2 ⟨rfl,hb2⟩
 have HB2:Hid (Below w1.heap.size w1 w2):=hb2
 clear hli hb2
 go_wp2
 go_ret2
 exact HEND.out _ (below_then HB1.out HB2.out)
theorem bt_sum (s z:ByteArray):s++z=bt (tx s++tx z):=by
 apply ByteArray.ext
 simp[tx,bt]
theorem pickR_size {S S':Bl}{k:Nat}{now:Int}{s:ByteArray}{kept:Bool}{c:Nat}(hok:BOk S)(h:PickR nwB S k now S' s kept c):s.size≤300:=by
 rcases h with⟨j,_,_,rfl,_⟩|⟨_,⟨_,_,_,hu⟩,_⟩|⟨_,_,_,rfl,_⟩|⟨_,_,ho,rfl,_⟩
 ·decide
 ·exact (hup_nm hok hu).2
 ·decide
 ·exact ((bopen_facts hok).2.2 _ (nwB_in k ho)).2
theorem pickR_told {S S':Bl}{k:Nat}{now:Int}{s:ByteArray}{kept:Bool}{c:Nat}(h:PickR nwB S k now S' s kept c):c≠7∧c≠9:=by
 rcases h with⟨j,hf,_,_,_,rfl⟩|⟨_,_,_,rfl,_⟩|⟨_,_,_,_,_,rfl,_⟩|⟨_,_,_,_,_,rfl,_⟩
 ·rcases hf with⟨_,rfl⟩|⟨_,_,_,rfl⟩<;>decide
 all_goals decide
theorem pickP_any (a:Nat→Addr)(p:Nat)(F:Nat→Prop)(S:Sc)(r g cap k:Nat)(W:World)(he:EB a W)(hY:PlY S F p r g cap W)(hpF:¬F p)(hok:BOk S.b)(hk:k<18446744073709551616) :
  Calls Tryz.prog 46 #[.pointer (some ⟨p,0,none⟩),.int .u64 (k:Nat)] W fun e W'=>∃F' b' s kept c ev,e=.returned (.tuple #[.string (bt (tx s++(if kept then tKept else tNew))),ev])∧(∀b,F' b→F b∨W.heap.size≤b)∧Tur F W W'∧EvOf a c ev∧PickR nwB S.b k S.now b' s kept c∧RepB b' F' r W':=by
 have c0:=hY.c0
 have c2:=hY.c2
 have hbd:Below W.heap.size W W.drew:=below_drewN (Below.refl _ _) 1
 have HC:Hid (∀w',Tur F W w'→w'.cell? ⟨p,0,none⟩=some (.pointer (some ⟨r,0,none⟩))∧w'.cell? ⟨p,2,none⟩=some (.int .i64 S.now)):=fun w' hT=>⟨tur_cell hT hpF c0,tur_cell hT hpF c2⟩
 have ht0:Tur F W W.drew:=Tur.of_below hbd
 have hcal:∀w',Below W.heap.size W w'→Calls Tryz.prog 97 #[.pointer (some ⟨r,0,none⟩),.int .u64 (k:Nat),.int .i64 S.now] w' fun e w''=>∃s kept ev,e=.returned (.tuple #[.string s,.bool kept,ev])∧(s.size≤300∧∃F' b' c,(∀b,F' b→F b∨W.heap.size≤b)∧Tur F W w''∧EvOf a c ev∧PickR nwB S.b k S.now b' s kept c∧RepB b' F' r w'')∧Tur F W w'':=fun w' hbl=>(pick_bal a S.b F r k S.now w' (he.later hbl) (hY.rep.stay fun b hf=>hbl.block b (hY.rep.lt b hf)) hok hk).mono fun _ _ ⟨F',S',s,kept,c,ev,q1,q2,q3,q4,q5,q6⟩=>by
  have hT:Tur F W _:=(Tur.of_below hbl).trans q2 fun b hb=>Or.inl hb
  refine⟨s,kept,ev,q3,⟨pickR_size hok q5,F',S',c,fun b hb=>?_,hT,q4,q5,q6⟩,hT⟩
  rcases q1 b hb with q|q
  ·exact Or.inl q
  ·exact Or.inr (Nat.le_trans hbl.size q)
 clear hY
 go_enter Tryz.func46,Tryz.ntmps46
 go_wp2_with fail
 go_region_held3 (fun w'=>w'.cell? ⟨p,0,none⟩=some (.pointer (some ⟨r,0,none⟩))∧w'.cell? ⟨p,2,none⟩=some (.int .i64 S.now))
  (first|exact HC.out _ (by assumption))
  (first
   | (go_at_call 97;refine (hcal _ (by assumption)).mono ?_;rintro e w1 ⟨s,kept,ev,rfl,hP1,ht1⟩))
 obtain⟨hsz,F',b',c,r1,r2,r3,r4,r5⟩:=hP1
 have HP:Hid ((∀b,F' b→F b∨W.heap.size≤b)∧Tur F W w1∧EvOf a c ev∧PickR nwB S.b k S.now b' s kept c∧RepB b' F' r w1):=⟨r1,r2,r3,r4,r5⟩
 have hei:=either_any kept ⟨#[32,107,101,112,116]⟩ ⟨#[32,110,101,119]⟩ w1
 clear r1 r2 r3 r4 r5 hcal ht0 ht1 c0 c2 hbd HC
 have hadd:(tx s++(if kept then tKept else tNew)).length≤1000:=by
  have h5:=hsz
  rw[Lib.size_eq] at h5
  cases kept<;>(rw[List.length_append];simp only[tx,tKept,tNew] at *;simp;omega)
 obtain⟨z,hz,hzs,hzz⟩:∃z:ByteArray,(if kept then (⟨#[32,107,101,112,116]⟩:ByteArray) else ⟨#[32,110,101,119]⟩)=z∧z.size≤10∧tx z=(if kept then tKept else tNew):=by
  cases kept
  ·exact⟨_,rfl,by decide,rfl⟩
  ·exact⟨_,rfl,by decide,rfl⟩
 rw[hz] at hei
 have hsum:∀w,(Op.stringOp .add s z).run Tryz.prog w=.ok (.string (s++z)) w:=fun w=>run_string_add_sum w s z (by omega)
 have HR:Hid (s++z=bt (tx s++(if kept then tKept else tNew))):=by
  show _=_
  rw[←hzz]
  exact bt_sum s z
 clear hz hzz
 go_wp2_with fail
 refine hei.mono ?_
 rintro e w2 ⟨rfl,rfl⟩
 clear hei
 go_wp2
 go_ret2
 obtain⟨q1,q2,q3,q4,q5⟩:=HP.out
 exact⟨F',b',s,kept,c,ev,by rw[HR.out];rfl,q1,q2,q3,q4,q5⟩
theorem cl_pick (w0 W:World)(a:Nat→Addr)(p q m:Nat)(F:Nat→Prop)(S:Sc)(r g cap j:Nat)(hP:PlC w0 a p q m F W)(hY:PlY S F p r g cap W)(hS:SB S j)(nb cn k:Nat)(vh:Value)(hk:W.cell? ⟨nb,0,none⟩=some (.int .i64 (k:Nat)))(hk9:k≤9999999)(hnF:¬F nb)(hvh:∃x n c,vh=.slice x n c) :
  Calls Tryz.prog 45 #[.agg #[.slice (some ⟨nb,0,none⟩) 1 cn,vh],.pointer (some ⟨q,0,none⟩)] W (CmdE w0 a p q m F (some S) ⟨wPick,[],[k]⟩ W):=by
 obtain⟨vx,vl,vc,rfl⟩:=hvh
 have hn:=hS.ok.ne
 have hpF:¬F p:=fun h=>(hP.F0 p h).2.1 rfl
 obtain⟨wa,hwa⟩:∃wa,wa=W.alloc (.cells #[.slice (some ⟨nb,0,none⟩) 1 cn,.slice vx vl vc] 83):=⟨_,rfl⟩
 have hba:Below W.heap.size W wa:=by rw[hwa];exact (Below.refl _ _).alloc (Nat.le_refl _) _
 have hPa:=hP.later hba
 have hYa:=hY.later hpF hn hba
 have HBA:Hid (Below W.heap.size W wa):=hba
 have k0:wa.cell? ⟨W.heap.size,0,none⟩=some (.slice (some ⟨nb,0,none⟩) 1 cn):=by rw[hwa];simp
 have k1:wa.cell? ⟨W.heap.size,1,none⟩=some (.slice vx vl vc):=by rw[hwa];simp
 have kq:=hPa.q0
 have c0:=hYa.c0
 have c1:=hYa.c1
 have c2:=hYa.c2
 have hbd:Below wa.heap.size wa wa.drew:=below_drewN (Below.refl _ _) 1
 have hlF:¬F W.heap.size:=fun h=>absurd (hY.rep.lt _ h) (Nat.lt_irrefl _)
 have hqF:¬F q:=fun h=>(hP.F0 q h).2.2.1 rfl
 have nk:=below_cell hba hk
 have hwr:IntKind.u64.wrap (k:Int)=(k:Int):=by
  rw[IntKind.wrap_u64]
  omega
 have HC:Hid (∀w',Tur F wa w'→w'.cell? ⟨q,0,none⟩=some (.pointer (some ⟨p,0,none⟩))∧w'.cell? ⟨W.heap.size,0,none⟩=some (.slice (some ⟨nb,0,none⟩) 1 cn)∧w'.cell? ⟨nb,0,none⟩=some (.int .i64 (k:Nat))):=fun w' hT=>⟨tur_cell hT hqF kq,tur_cell hT hlF k0,tur_cell hT hnF nk⟩
 have ht0:Tur F wa wa.drew:=Tur.of_below hbd
 have hcal:∀w',Below wa.heap.size wa w'→Calls Tryz.prog 46 #[.pointer (some ⟨p,0,none⟩),.int .u64 (k:Nat)] w' fun e w''=>∃tv ev,e=.returned (.tuple #[.string tv,ev])∧CmdE w0 a p q m F (some S) ⟨wPick,[],[k]⟩ W (.returned (.tuple #[.string tv,ev])) w''∧Tur F wa w'':=fun w' hbl=>(pickP_any a p F S r g cap k w' (hPa.ea.b.later hbl) (hYa.later hpF hn hbl) hpF hS.ok.ok (by omega)).mono fun _ w'' ⟨F',b',s,kept,c,ev,q1,q2,q3,q4,q5,q6⟩=>by
  have hT:Tur F wa w'':=(Tur.of_below hbl).trans q3 fun b hb=>Or.inl hb
  obtain⟨z1,z2,z3,z4⟩:=cmd_turned hP hY hn (below_then hba hbl) q3 q2 q6
  obtain⟨y7,y9⟩:=pickR_told q5
  exact⟨_,_,q1,⟨_,F',_,Or.inr (Or.inr (Or.inr ⟨show wPick≠wHosts by decide,show wPick≠wJump by decide,S,rfl,Or.inl ⟨_,Or.inl ⟨rfl,k,b',s,kept,c,rfl,q5,rfl,rfl⟩,rfl⟩⟩)),ansE_ev q4 (pickR_c q5) y7 y9 (fun _=>rfl),z1,z2,z3,z4⟩,hT⟩
 clear hP hY hPa hYa hS hba hk hlF hqF hnF c0 c1 c2
 go_enter Tryz.func45,Tryz.ntmps45
 go_wp2_with fail
 rw[←hwa]
 clear hwa
 go_region_held3 (fun w'=>w'.cell? ⟨q,0,none⟩=some (.pointer (some ⟨p,0,none⟩))∧w'.cell? ⟨W.heap.size,0,none⟩=some (.slice (some ⟨nb,0,none⟩) 1 cn)∧w'.cell? ⟨nb,0,none⟩=some (.int .i64 (k:Nat)))
  (first|exact HC.out _ (by assumption))
  (first
   | (go_at_call 46;refine (hcal _ (by assumption)).mono ?_;rintro e w1 ⟨tv,ev,rfl,hE1,ht1⟩))
 have HE1:Hid (CmdE w0 a p q m F (some S) ⟨wPick,[],[k]⟩ W (.returned (.tuple #[.string tv,ev])) w1):=hE1
 clear hE1 hcal HC
 go_wp2
 go_ret2
 exact HE1.out
theorem cl_look (w0 W:World)(a:Nat→Addr)(p q m:Nat)(F:Nat→Prop)(S:Sc)(r g cap j:Nat)(hP:PlC w0 a p q m F W)(hY:PlY S F p r g cap W)(hS:SB S j)(nb cn hb ch k:Nat)(h:ByteArray)(hk:W.cell? ⟨nb,0,none⟩=some (.int .i64 (k:Nat)))(hh:W.cell? ⟨hb,0,none⟩=some (.string h))(hnF:¬F nb)(hhF:¬F hb) :
  Calls Tryz.prog 47 #[.agg #[.slice (some ⟨nb,0,none⟩) 1 cn,.slice (some ⟨hb,0,none⟩) 1 ch],.pointer (some ⟨q,0,none⟩)] W (CmdE w0 a p q m F (some S) ⟨wLook,[h],[k]⟩ W):=by
 have hn:=hS.ok.ne
 have hpF:¬F p:=fun h=>(hP.F0 p h).2.1 rfl
 obtain⟨wa,hwa⟩:∃wa,wa=W.alloc (.cells #[.slice (some ⟨nb,0,none⟩) 1 cn,.slice (some ⟨hb,0,none⟩) 1 ch] 83):=⟨_,rfl⟩
 have hba:Below W.heap.size W wa:=by rw[hwa];exact (Below.refl _ _).alloc (Nat.le_refl _) _
 have hPa:=hP.later hba
 have hYa:=hY.later hpF hn hba
 have HBA:Hid (Below W.heap.size W wa):=hba
 have k0:wa.cell? ⟨W.heap.size,0,none⟩=some (.slice (some ⟨nb,0,none⟩) 1 cn):=by rw[hwa];simp
 have k1:wa.cell? ⟨W.heap.size,1,none⟩=some (.slice (some ⟨hb,0,none⟩) 1 ch):=by rw[hwa];simp
 have kq:=hPa.q0
 have c0:=hYa.c0
 have c1:=hYa.c1
 have c2:=hYa.c2
 have hbd:Below wa.heap.size wa wa.drew:=below_drewN (Below.refl _ _) 1
 have hlF:¬F W.heap.size:=fun h=>absurd (hY.rep.lt _ h) (Nat.lt_irrefl _)
 have hqF:¬F q:=fun h=>(hP.F0 q h).2.2.1 rfl
 have nk:=below_cell hba hk
 have nh:=below_cell hba hh
 have hk1:((k:Int)==1)=decide (k=1):=by
  by_cases q:k=1
  ·subst q;rfl
  ·rw[decide_eq_false q,beq_eq_false_iff_ne];omega
 have HC:Hid (∀w',Tur F wa w'→w'.cell? ⟨q,0,none⟩=some (.pointer (some ⟨p,0,none⟩))∧w'.cell? ⟨p,0,none⟩=some (.pointer (some ⟨r,0,none⟩))∧w'.cell? ⟨W.heap.size,0,none⟩=some (.slice (some ⟨nb,0,none⟩) 1 cn)∧w'.cell? ⟨W.heap.size,1,none⟩=some (.slice (some ⟨hb,0,none⟩) 1 ch)∧w'.cell? ⟨nb,0,none⟩=some (.int .i64 (k:Nat))∧w'.cell? ⟨hb,0,none⟩=some (.string h)):=fun w' hT=>⟨tur_cell hT hqF kq,tur_cell hT hpF c0,tur_cell hT hlF k0,tur_cell hT hlF k1,tur_cell hT hnF nk,tur_cell hT hhF nh⟩
 have ht0:Tur F wa wa.drew:=Tur.of_below hbd
 have hcal:∀w',Below wa.heap.size wa w'→Calls Tryz.prog 48 #[.pointer (some ⟨r,0,none⟩),.string h,.bool (decide (k=1))] w' fun e w''=>∃t ev,e=.returned (.tuple #[.bool t,ev])∧CmdE w0 a p q m F (some S) ⟨wLook,[h],[k]⟩ W (.returned (.tuple #[.string (if t then ⟨#[116,117,114,110,101,100]⟩ else ⟨#[115,97,109,101]⟩),ev])) w''∧Tur F wa w'':=fun w' hbl=>(look_bal a S.b F r h (decide (k=1)) w' (hPa.ea.b.later hbl) (hYa.later hpF hn hbl).rep hS.ok.ok).mono fun _ w'' ⟨F',b',t,c,ev,q1,q2,q3,q4,q5,q6⟩=>by
  have hT:Tur F wa w'':=(Tur.of_below hbl).trans q2 fun b hb=>Or.inl hb
  obtain⟨z1,z2,z3,z4⟩:=cmd_turned hP hY hn (below_then hba hbl) q2 q1 q6
  have y:c≠7∧c≠9:=by rcases q5 with⟨_,_,rfl,_⟩|⟨_,_,rfl,_⟩<;>decide
  exact⟨_,_,q3,⟨_,F',_,Or.inr (Or.inr (Or.inr ⟨show wLook≠wHosts by decide,show wLook≠wJump by decide,S,rfl,Or.inl ⟨_,Or.inr (Or.inl ⟨rfl,h,k,b',t,c,rfl,rfl,q5,rfl,rfl⟩),rfl⟩⟩)),ansE_ev q4 (lookR_c q5) y.1 y.2 (fun _=>by cases t<;>rfl),z1,z2,z3,z4⟩,hT⟩
 generalize decide (k=1)=is1 at *
 clear hP hY hPa hYa hS hba hk hh hlF hqF hnF hhF c1 c2
 go_enter Tryz.func47,Tryz.ntmps47
 go_wp2_with fail
 rw[←hwa]
 clear hwa
 go_region_held3 (fun w'=>w'.cell? ⟨q,0,none⟩=some (.pointer (some ⟨p,0,none⟩))∧w'.cell? ⟨p,0,none⟩=some (.pointer (some ⟨r,0,none⟩))∧w'.cell? ⟨W.heap.size,0,none⟩=some (.slice (some ⟨nb,0,none⟩) 1 cn)∧w'.cell? ⟨W.heap.size,1,none⟩=some (.slice (some ⟨hb,0,none⟩) 1 ch)∧w'.cell? ⟨nb,0,none⟩=some (.int .i64 (k:Nat))∧w'.cell? ⟨hb,0,none⟩=some (.string h))
  (first|exact HC.out _ (by assumption))
  (first
   | (go_at_call 48;refine (hcal _ (by assumption)).mono ?_;rintro e w1 ⟨t,ev,rfl,hE1,ht1⟩))
 have hei:=either_any t ⟨#[116,117,114,110,101,100]⟩ ⟨#[115,97,109,101]⟩ w1
 have HE1:Hid (CmdE w0 a p q m F (some S) ⟨wLook,[h],[k]⟩ W (.returned (.tuple #[.string (if t then ⟨#[116,117,114,110,101,100]⟩ else ⟨#[115,97,109,101]⟩),ev])) w1):=hE1
 clear hE1 hcal HC
 generalize (if t then (⟨#[116,117,114,110,101,100]⟩:ByteArray) else ⟨#[115,97,109,101]⟩)=z at *
 go_wp2_with fail
 refine hei.mono ?_
 rintro e w2 ⟨rfl,rfl⟩
 clear hei
 go_wp2
 go_ret2
 exact HE1.out
theorem cl_drain (w0 W:World)(a:Nat→Addr)(p q m:Nat)(F:Nat→Prop)(S:Sc)(r g cap j:Nat)(hP:PlC w0 a p q m F W)(hY:PlY S F p r g cap W)(hS:SB S j)(nb cn hb ch k:Nat)(h:ByteArray)(hk:W.cell? ⟨nb,0,none⟩=some (.int .i64 (k:Nat)))(hh:W.cell? ⟨hb,0,none⟩=some (.string h))(hnF:¬F nb)(hhF:¬F hb) :
  Calls Tryz.prog 50 #[.agg #[.slice (some ⟨nb,0,none⟩) 1 cn,.slice (some ⟨hb,0,none⟩) 1 ch],.pointer (some ⟨q,0,none⟩)] W (CmdE w0 a p q m F (some S) ⟨wDrain,[h],[k]⟩ W):=by
 have hn:=hS.ok.ne
 have hpF:¬F p:=fun h=>(hP.F0 p h).2.1 rfl
 obtain⟨wa,hwa⟩:∃wa,wa=W.alloc (.cells #[.slice (some ⟨nb,0,none⟩) 1 cn,.slice (some ⟨hb,0,none⟩) 1 ch] 83):=⟨_,rfl⟩
 have hba:Below W.heap.size W wa:=by rw[hwa];exact (Below.refl _ _).alloc (Nat.le_refl _) _
 have hPa:=hP.later hba
 have hYa:=hY.later hpF hn hba
 have HBA:Hid (Below W.heap.size W wa):=hba
 have k0:wa.cell? ⟨W.heap.size,0,none⟩=some (.slice (some ⟨nb,0,none⟩) 1 cn):=by rw[hwa];simp
 have k1:wa.cell? ⟨W.heap.size,1,none⟩=some (.slice (some ⟨hb,0,none⟩) 1 ch):=by rw[hwa];simp
 have kq:=hPa.q0
 have c0:=hYa.c0
 have c1:=hYa.c1
 have c2:=hYa.c2
 have hbd:Below wa.heap.size wa wa.drew:=below_drewN (Below.refl _ _) 1
 have hlF:¬F W.heap.size:=fun h=>absurd (hY.rep.lt _ h) (Nat.lt_irrefl _)
 have hqF:¬F q:=fun h=>(hP.F0 q h).2.2.1 rfl
 have nk:=below_cell hba hk
 have nh:=below_cell hba hh
 have hk1:((k:Int)==1)=decide (k=1):=by
  by_cases q:k=1
  ·subst q;rfl
  ·rw[decide_eq_false q,beq_eq_false_iff_ne];omega
 have HC:Hid (∀w',Tur F wa w'→w'.cell? ⟨q,0,none⟩=some (.pointer (some ⟨p,0,none⟩))∧w'.cell? ⟨p,0,none⟩=some (.pointer (some ⟨r,0,none⟩))∧w'.cell? ⟨W.heap.size,0,none⟩=some (.slice (some ⟨nb,0,none⟩) 1 cn)∧w'.cell? ⟨W.heap.size,1,none⟩=some (.slice (some ⟨hb,0,none⟩) 1 ch)∧w'.cell? ⟨nb,0,none⟩=some (.int .i64 (k:Nat))∧w'.cell? ⟨hb,0,none⟩=some (.string h)):=fun w' hT=>⟨tur_cell hT hqF kq,tur_cell hT hpF c0,tur_cell hT hlF k0,tur_cell hT hlF k1,tur_cell hT hnF nk,tur_cell hT hhF nh⟩
 have ht0:Tur F wa wa.drew:=Tur.of_below hbd
 have hcal:∀w',Below wa.heap.size wa w'→Calls Tryz.prog 51 #[.pointer (some ⟨r,0,none⟩),.string h,.bool (decide (k=1))] w' fun e w''=>∃ev,e=.returned ev∧CmdE w0 a p q m F (some S) ⟨wDrain,[h],[k]⟩ W (.returned (.tuple #[.string ⟨#[111,107]⟩,ev])) w''∧Tur F wa w'':=fun w' hbl=>(drain_bal a S.b F r h (decide (k=1)) w' (hPa.ea.b.later hbl) (hYa.later hpF hn hbl).rep hS.ok.ok).mono fun _ w'' ⟨F',b',c,ev,q1,q2,q3,q4,q5,q6⟩=>by
  have hT:Tur F wa w'':=(Tur.of_below hbl).trans q2 fun b hb=>Or.inl hb
  obtain⟨z1,z2,z3,z4⟩:=cmd_turned hP hY hn (below_then hba hbl) q2 q1 q6
  have y:c≠7∧c≠9:=by rcases q5 with⟨_,rfl,_⟩|⟨_,rfl,_⟩<;>decide
  exact⟨_,q3,⟨_,F',_,Or.inr (Or.inr (Or.inr ⟨show wDrain≠wHosts by decide,show wDrain≠wJump by decide,S,rfl,Or.inl ⟨_,Or.inr (Or.inr (Or.inl ⟨rfl,h,k,b',c,rfl,rfl,q5,rfl,rfl⟩)),rfl⟩⟩)),ansE_ev q4 (drainR_c q5) y.1 y.2 (fun _=>rfl),z1,z2,z3,z4⟩,hT⟩
 generalize decide (k=1)=is1 at *
 clear hP hY hPa hYa hS hba hk hh hlF hqF hnF hhF c1 c2
 go_enter Tryz.func50,Tryz.ntmps50
 go_wp2_with fail
 rw[←hwa]
 clear hwa
 go_region_held3 (fun w'=>w'.cell? ⟨q,0,none⟩=some (.pointer (some ⟨p,0,none⟩))∧w'.cell? ⟨p,0,none⟩=some (.pointer (some ⟨r,0,none⟩))∧w'.cell? ⟨W.heap.size,0,none⟩=some (.slice (some ⟨nb,0,none⟩) 1 cn)∧w'.cell? ⟨W.heap.size,1,none⟩=some (.slice (some ⟨hb,0,none⟩) 1 ch)∧w'.cell? ⟨nb,0,none⟩=some (.int .i64 (k:Nat))∧w'.cell? ⟨hb,0,none⟩=some (.string h))
  (first|exact HC.out _ (by assumption))
  (first
   | (go_at_call 51;refine (hcal _ (by assumption)).mono ?_;rintro e w1 ⟨ev,rfl,hE1,ht1⟩))
 have HE1:Hid (CmdE w0 a p q m F (some S) ⟨wDrain,[h],[k]⟩ W (.returned (.tuple #[.string ⟨#[111,107]⟩,ev])) w1):=hE1
 clear hE1 hcal HC
 go_wp2
 go_ret2
 exact HE1.out
end Go.Proofs.YtfhmfjcpggddkaaGreatDoor
