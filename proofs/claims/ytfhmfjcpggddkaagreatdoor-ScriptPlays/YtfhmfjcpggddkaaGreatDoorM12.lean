/- The landed script: the words behind a command's name. -/
import Derived.Test.YtfhmfjcpggddkaaGreatDoorM11
import Derived.Test.YtfhmfjcpggddkaaGreatDoorM10
import Derived.Test.YtfhmfjcpggddkaaGreatDoorM5
import Derived.Test.YtfhmfjcpggddkaaGreatDoorM7
import Derived.Deep.AppendLies
import Derived.Test.YtfhmfjcpggddkaaGreatDoorM4
set_option maxHeartbeats 20000000
set_option maxRecDepth 100000
namespace Go.Proofs.YtfhmfjcpggddkaaGreatDoor
open Go.RowKit Lh
def kindW (form:List UInt8)(i:Nat):Nat:=(form.getD (min i (form.length - 1)) 0).toNat
def scanW (form:List UInt8):Nat→List (List UInt8)→List Nat × List ByteArray→Option (List Nat × List ByteArray)
 | _,[],A=>some A
 | i,x :: xs,A=>match stepW (kindW form i) x A with
  | some B=>scanW form (i+1) xs B
  | none=>none
def readW (form:List UInt8)(more:Bool)(ws:List (List UInt8)):Option (List Nat × List ByteArray) :=
 if ws.length<form.length∨(form.length<ws.length∧more=false) then none else scanW form 0 ws ([],[])
theorem stepW_len {k:Nat}{x:List UInt8}{A B:List Nat × List ByteArray}(h:stepW k x A=some B):B.1.length≤A.1.length+1∧B.2.length≤A.2.length+1:=by
 unfold stepW at h
 split at h
 ·split at h
  ·cases h
   simp
  ·cases h
 ·split at h
  ·split at h
   ·cases h
    simp
   ·cases h
  ·cases h
def ReadR (form:List UInt8)(more:Bool)(ws:List (List UInt8))(e:Ending)(W':World)(B:Nat):Prop :=
 (∃N H vn vh,readW form more ws=some (N,H)∧e=.returned (.tuple #[.agg #[vn,vh],.bool true])∧W'.ownsRow B 3 1 vn N.length (N.map fun n=>.int .i64 (n:Nat))∧W'.ownsRow B 9 1 vh H.length (H.map Value.string)) ∨
 (readW form more ws=none∧e=.returned (.tuple #[.agg #[.slice none 0 0,.slice none 0 0],.bool false]))
theorem scanW_step {form:List UInt8}{ws:List (List UInt8)}{k:Nat}{A:List Nat × List ByteArray}(h:k<ws.length):scanW form k (ws.drop k) A=match stepW (kindW form k) ws[k] A with|some B=>scanW form (k+1) (ws.drop (k+1)) B|none=>none:=by
 rw[List.drop_eq_getElem_cons h]
 rfl
theorem kindW_at {form:List UInt8}{k:Nat}(h:0<form.length)(hm:min k (form.length - 1)<(bt form).size):kindW form k=((bt form)[min k (form.length - 1)]'hm).toNat:=by
 unfold kindW
 have h1:min k (form.length - 1)<form.length:=by omega
 rw[List.getD_eq_getElem?_getD,List.getElem?_eq_getElem h1]
 rfl
theorem owns_base {w:World}{b b':Nat}{e:TypeId}{n sz:Nat}{v:Value}{xs:List Value}(h:w.ownsRow b e sz v n xs)(hb:b'≤b):w.ownsRow b' e sz v n xs:=by
 refine⟨h.1,?_⟩
 rcases h.2 with q|⟨g,cap,cur,h1,h2,r⟩
 ·exact Or.inl q
 ·exact Or.inr ⟨g,cap,cur,h1,Nat.le_trans hb h2,r⟩
def WordsAt (W:World)(p:Option Addr)(ws:List (List UInt8)):Prop:=∀j (h:j<ws.length),∃b o,p=some ⟨b,o,none⟩∧W.cell? ⟨b,o+j,none⟩=some (.string (bt ws[j]))
theorem WordsAt.later {W W':World}{p:Option Addr}{ws:List (List UInt8)}(h:WordsAt W p ws)(hb:Below W.heap.size W W'):WordsAt W' p ws:=fun j hj=>by
 obtain⟨b,o,h1,h2⟩:=h j hj
 exact⟨b,o,h1,below_cell hb h2⟩
theorem readW_no {form:List UInt8}{more:Bool}{ws:List (List UInt8)}(hl:ws.length<form.length∨(form.length<ws.length∧more=false)):readW form more ws=none:=by
 unfold readW
 rw[if_pos hl]
theorem readC_len (form:List UInt8)(more early:Bool)(fv:Value)(q:Option Addr)(c:Nat)(ws:List (List UInt8))(W:World)(hl:ws.length<form.length∨(form.length<ws.length∧more=false)) :
  Calls Tryz.prog 109 #[cmA form more early fv,.slice q ws.length c] W fun e W'=>Below W.heap.size W W'∧ReadR form more ws e W' W.heap.size:=by
 have HR:Hid (readW form more ws=none):=readW_no hl
 have hsz:(bt form).size=form.length:=by simp[Lh.bt,ByteArray.size]
 have hb2:Below W.heap.size W ((W.alloc (.cells #[.string (bt form),.bool more,.bool early,fv] 87)).alloc (.cells #[.slice none 0 0,.slice none 0 0] 83)):=((Below.refl _ _).alloc (Nat.le_refl _) _).alloc (by simp) _
 have HB:Hid (Below W.heap.size W ((W.alloc (.cells #[.string (bt form),.bool more,.bool early,fv] 87)).alloc (.cells #[.slice none 0 0,.slice none 0 0] 83))):=hb2
 unfold cmA
 rcases hl with h1|⟨h2,rfl⟩
 ·clear hb2
  go_enter Tryz.func109,Tryz.ntmps109
  go_wp2
  exact bodyPost_ret (v:=.tuple #[.agg #[.slice none 0 0,.slice none 0 0],.bool false]) (by simp[results,Tryz.results109,go_sem]) rfl ⟨HB.out,Or.inr ⟨HR.out,rfl⟩⟩
 ·have h1:¬ws.length<form.length:=by omega
  clear hb2
  go_enter Tryz.func109,Tryz.ntmps109
  go_wp2
  exact bodyPost_ret (v:=.tuple #[.agg #[.slice none 0 0,.slice none 0 0],.bool false]) (by simp[results,Tryz.results109,go_sem]) rfl ⟨HB.out,Or.inr ⟨HR.out,rfl⟩⟩
def TakeR (k:Nat)(x:List UInt8)(N:List Nat)(H:List ByteArray)(wb:Nat)(e:Ending)(W':World):Prop :=
 (∃N' H' vn' vh',stepW k x (N,H)=some (N',H')∧e=.returned (.bool true)∧WS W' wb vn' vh' N' H')∨(stepW k x (N,H)=none∧e=.returned (.bool false))
theorem takeW_any (a:Nat→Addr){wb:Nat}{vn vh:Value}{N:List Nat}{H:List ByteArray}(k:Nat)(hk:k=72∨k=78∨k=70)(x:List UInt8)(hx:x.length≤5000)(W0 W:World)(he:EC a W0)(h4:Errs4 a W0)(h0:W0.heap.size≤wb)(hb0:Below W0.heap.size W0 W)(h:WS W wb vn vh N H)(hN:N.length≤10000)(hH:H.length≤10000) :
  Calls Tryz.prog 167 #[.pointer (some ⟨wb,0,none⟩),.int .u8 (k:Nat),.string (bt x)] W fun e W'=>Below W0.heap.size W0 W'∧TakeR k x N H wb e W':=by
 rcases hk with rfl|hk
 ·exact take_host a x hx W0 W h4 h0 hb0 h hH
 ·exact take_num a k hk x hx W0 W he h0 hb0 h hN
theorem readW_yes {form:List UInt8}{more:Bool}{ws:List (List UInt8)}(h1:¬ws.length<form.length)(h2:¬(form.length<ws.length∧more=false)):readW form more ws=scanW form 0 ws ([],[]):=by
 unfold readW
 rw[if_neg fun h=>h.elim h1 h2]
theorem readC_scan (a:Nat→Addr)(form:List UInt8)(more early:Bool)(fv:Value)(p:Option Addr)(c:Nat)(ws:List (List UInt8))(W:World)(he:EC a W)(h4:Errs4 a W)(h1:¬ws.length<form.length)(h2:¬(form.length<ws.length∧more=false))(hf:more=true→0<form.length)(hfk:∀x∈form,x=72∨x=78∨x=70)(hws:ws.length≤10000)(hx:∀x∈ws,x.length≤5000)(hp:WordsAt W p ws) :
  Calls Tryz.prog 109 #[cmA form more early fv,.slice p ws.length c] W fun e W'=>Below W.heap.size W W'∧ReadR form more ws e W' W.heap.size:=by
 have HR:Hid (readW form more ws=scanW form 0 ws ([],[])):=readW_yes h1 h2
 have hsz:(bt form).size=form.length:=by simp[Lh.bt,ByteArray.size]
 unfold cmA
 obtain⟨W0,hW0⟩:∃W0,W0=(W.alloc (.cells #[.string (bt form),.bool more,.bool early,fv] 87)).alloc (.cells #[.slice none 0 0,.slice none 0 0] 83):=⟨_,rfl⟩
 have hb2:Below W.heap.size W W0:=by rw[hW0];exact ((Below.refl _ _).alloc (Nat.le_refl _) _).alloc (by simp) _
 have hs0:W0.heap.size=W.heap.size+1+1:=by rw[hW0];simp
 have c0:W0.cell? ⟨W.heap.size,0,none⟩=some (.string (bt form)):=by rw[hW0];simp
 have r0:W0.cell? ⟨W.heap.size+1,0,none⟩=some (.slice none 0 0):=by rw[hW0];simp
 have r1:W0.cell? ⟨W.heap.size+1,1,none⟩=some (.slice none 0 0):=by rw[hW0];simp
 have rf:∀k,W0.frozen? ⟨W.heap.size+1,k,none⟩=false:=fun k=>by rw[hW0];simp
 have HE:Hid (EC a W0):=he.later hb2
 have H4:Hid (Errs4 a W0):=h4.later hb2
 have HP:Hid (WordsAt W0 p ws):=hp.later hb2
 have HX:Hid (∀x∈ws,x.length≤5000):=hx
 have HFK:Hid (∀x∈form,x=72∨x=78∨x=70):=hfk
 have HB2:Hid (Below W.heap.size W W0):=hb2
 have HW0:Hid (W0=(W.alloc (.cells #[.string (bt form),.bool more,.bool early,fv] 87)).alloc (.cells #[.slice none 0 0,.slice none 0 0] 83)):=hW0
 have HC:Hid (W0.cell? ⟨W.heap.size,0,none⟩=some (.string (bt form))∧W0.cell? ⟨W.heap.size+1,0,none⟩=some (.slice none 0 0)∧W0.cell? ⟨W.heap.size+1,1,none⟩=some (.slice none 0 0)∧∀k,W0.frozen? ⟨W.heap.size+1,k,none⟩=false):=⟨c0,r0,r1,rf⟩
 have HS0:Hid (W0.heap.size=W.heap.size+1+1):=hs0
 have hmf:form.length<ws.length→more=true:=fun h=>by
  cases more with
  | true=>rfl
  | false=>exact absurd ⟨h,rfl⟩ h2
 have HF:Hid (0<ws.length→0<form.length):=fun h=>by
  rcases Nat.lt_or_ge form.length ws.length with q|q
  ·exact hf (hmf q)
  ·omega
 have hm:(decide (form.length<ws.length) && !more)=false:=by
  cases more with
  | true=>simp
  | false =>
   have:¬form.length<ws.length:=fun h=>h2 ⟨h,rfl⟩
   simp[this]
 have hWS:WS (W0.alloc (.cells #[.slice none 0 0,.slice none 0 0] 83)) (W.heap.size+1+1) (.slice none 0 0) (.slice none 0 0) [] []:=by
  rw[←hs0]
  exact⟨by simp,by simp,fun k=>by simp,World.ownsRow_nil _ _ _ _,World.ownsRow_nil _ _ _ _,fun g h=>by simp[Value.ownBlock] at h⟩
 have HWS:Hid (WS (W0.alloc (.cells #[.slice none 0 0,.slice none 0 0] 83)) (W.heap.size+1+1) (.slice none 0 0) (.slice none 0 0) [] []):=hWS
 clear he h4 hp hx hfk hb2 hW0 c0 r0 r1 rf hs0 hWS hf hmf
 by_cases hlt:form.length<ws.length
 case' pos =>
  obtain rfl:more=true:=by
   cases more with
   | true=>rfl
   | false=>exact absurd ⟨hlt,rfl⟩ h2
 all_goals
  clear hm h2
  go_enter Tryz.func109,Tryz.ntmps109
  go_wp2_with fail
  rw[←HW0.out]
  go_loopw [31] (fun t w'=>Below W0.heap.size W0 w'∧∃(k:Nat) (N:List Nat) (H:List ByteArray) (vn vh:Value),k≤ws.length∧N.length≤k∧H.length≤k∧t=.int .i64 (k:Nat)∧WS w' (W.heap.size+1+1) vn vh N H∧scanW form k (ws.drop k) (N,H)=scanW form 0 ws ([],[])) (fun t _=>ws.length - (intOf t).toNat)
  case atStart=>exact⟨(Below.refl _ _).alloc (Nat.le_refl _) _,0,[],[],_,_,Nat.zero_le _,Nat.le_refl _,Nat.le_refl _,rfl,HWS.out,rfl⟩
  case round =>
   obtain⟨hb,k,N,H,vn,vh,hkl,hN,hH,rfl,hW,hsc⟩:=hrel
   obtain⟨wo,hwo⟩:∃wo,wo=wr:=⟨_,rfl⟩
   subst hwo
   have HW:Hid (WS wo (W.heap.size+1+1) vn vh N H):=hW
   have HB:Hid (Below W0.heap.size W0 wo):=hb
   have HSC:Hid (scanW form k (ws.drop k) (N,H)=scanW form 0 ws ([],[])):=hsc
   obtain⟨q0,q1,q2,q3⟩:=HC.out
   have c0:=below_cell hb q0
   have r0:=below_cell hb q1
   have r1:=below_cell hb q2
   have hlt1:W.heap.size+1<W0.heap.size:=by rw[HS0.out];exact Nat.lt_succ_self _
   have f0:wo.frozen? ⟨W.heap.size+1,0,none⟩=false:=(World.frozen?_of_block (w:=W0) (w':=wo) (a:=⟨W.heap.size+1,0,none⟩) (hb.block _ hlt1)).trans (q3 0)
   have f1:wo.frozen? ⟨W.heap.size+1,1,none⟩=false:=(World.frozen?_of_block (w:=W0) (w':=wo) (a:=⟨W.heap.size+1,1,none⟩) (hb.block _ hlt1)).trans (q3 1)
   by_cases hk:k<ws.length
   ·obtain⟨b,o,rfl,hcell0⟩:=HP.out k hk
    have hcell:=below_cell hb hcell0
    have hx:=HX.out ws[k] (List.getElem_mem hk)
    have hfl:=HF.out (by omega)
    obtain⟨j,hj⟩:∃j,j=min k (form.length - 1):=⟨_,rfl⟩
    have hjf:j<(bt form).size:=by rw[hsz];omega
    have hmn:min (k:Int) ((form.length:Int) - 1)=(j:Int):=by omega
    obtain⟨kd,hkd⟩:∃kd:Nat,kd=kindW form k:=⟨_,rfl⟩
    have hkb:(((bt form)[j]'hjf).toNat:Int)=(kd:Int):=by
     rw[hkd,kindW_at (k:=k) hfl (by rw[←hj];exact hjf)]
     simp only[hj]
    have hkin:kd=72∨kd=78∨kd=70:=by
     have hm:((bt form)[j]'hjf)∈form:=by
      have hj2:j<form.length:=by omega
      have:(bt form)[j]'hjf=form[j]'hj2:=rfl
      rw[this]
      exact List.getElem_mem hj2
     have hz:((bt form)[j]'hjf).toNat=kd:=by omega
     rcases HFK.out _ hm with e|e|e<;>(rw[e] at hz;simp at hz;omega)
    have htk:=takeW_any a kd hkin ws[k] hx W0 wo HE.out H4.out (by rw[HS0.out];exact Nat.le_refl _) hb hW (by omega) (by omega)
    have hstep:=scanW_step (form:=form) (A:=(N,H)) hk
    rw[←hkd] at hstep
    have HSTEP:Hid (scanW form k (ws.drop k) (N,H)=match stepW kd ws[k] (N,H) with|some B=>scanW form (k+1) (ws.drop (k+1)) B|none=>none):=hstep
    have hki:(k:Int)<(ws.length:Int):=by omega
    generalize ws[k]'hk=x at *
    have hjs:(j:Int)<((bt form).size:Int):=by omega
    clear hcell0 hx hstep hkd hkin hj hW hsc hb
    go_wp2_with fail
    refine htk.mono ?_
    rintro e w9 ⟨hb9,hT⟩
    have HB9:Hid (Below W0.heap.size W0 w9):=hb9
    rcases hT with⟨N',H',vn',vh',hs,rfl,hW9⟩|⟨hs,rfl⟩
    ·have HW9:Hid (WS w9 (W.heap.size+1+1) vn' vh' N' H'):=hW9
     have HS:Hid (scanW form (k+1) (ws.drop (k+1)) (N',H')=scanW form 0 ws ([],[])):=by
      show _=_
      rw[←HSC.out,HSTEP.out,hs]
     have hln:=stepW_len hs
     have HLN:Hid (N'.length≤k+1∧H'.length≤k+1):=⟨by have:=hln.1;simp only at this;omega,by have:=hln.2;simp only at this;omega⟩
     clear htk hs hW9 hb9 hln hmn hkb hcell c0 r0 r1 f0 f1 q0 q1 q2 q3
     go_wp2_with fail
     exact⟨⟨HB9.out,k+1,N',H',vn',vh',hk,HLN.out.1,HLN.out.2,by go_num,HW9.out,HS.out⟩,by simp[intOf];omega⟩
    ·have HS:Hid (scanW form 0 ws ([],[])=none):=by
      show _=_
      rw[←HSC.out,HSTEP.out,hs]
     have r0':=below_cell hb9 q1
     have r1':=below_cell hb9 q2
     have f0':w9.frozen? ⟨W.heap.size+1,0,none⟩=false:=(World.frozen?_of_block (w:=W0) (w':=w9) (a:=⟨W.heap.size+1,0,none⟩) (hb9.block _ hlt1)).trans (q3 0)
     have f1':w9.frozen? ⟨W.heap.size+1,1,none⟩=false:=(World.frozen?_of_block (w:=W0) (w':=w9) (a:=⟨W.heap.size+1,1,none⟩) (hb9.block _ hlt1)).trans (q3 1)
     clear htk hs hb9 hmn hkb hcell c0 r0 r1 f0 f1 q0 q1 q2 q3
     go_wp2_with fail
     exact bodyPost_ret (v:=.tuple #[.agg #[.slice none 0 0,.slice none 0 0],.bool false]) (by simp[results,Tryz.results109,go_sem,r0',r1']) rfl ⟨((HB2.out.trans (HB9.out.mono (by rw[HS0.out];omega))).setCell (p:=⟨W.heap.size+1,0,none⟩) (Nat.le_succ _) _).setCell (p:=⟨W.heap.size+1,1,none⟩) (Nat.le_succ _) _,Or.inr ⟨HR.out.trans HS.out,rfl⟩⟩
   ·have hke:k=ws.length:=by omega
    have HS:Hid (scanW form 0 ws ([],[])=some (N,H)):=by
     show _=_
     rw[←HSC.out,hke,List.drop_length]
     rfl
    obtain⟨pn,cn,rfl⟩:=own_shape hW.on
    obtain⟨ph,ch,rfl⟩:=own_shape hW.oh
    have w0:=hW.c0
    have w1:=hW.c1
    have hki:¬(k:Int)<(ws.length:Int):=by omega
    clear hke hW hsc hb c0 q0 q1 q2 q3
    go_wp2_with fail
    refine bodyPost_ret (v:=.tuple #[.agg #[.slice pn N.length cn,.slice ph H.length ch],.bool true]) (by simp[results,Tryz.results109,go_sem,r0,r1]) rfl ⟨((HB2.out.trans (HB.out.mono (by rw[HS0.out];omega))).setCell (p:=⟨W.heap.size+1,0,none⟩) (Nat.le_succ _) _).setCell (p:=⟨W.heap.size+1,1,none⟩) (Nat.le_succ _) _,Or.inl ⟨N,H,_,_,HR.out.trans HS.out,rfl,?_,?_⟩⟩
    ·exact owns_base (howns_setCell (howns_setCell HW.out.on (by omega) _) (by omega) _) (by omega)
    ·exact owns_base (howns_setCell (howns_setCell HW.out.oh (by omega) _) (by omega) _) (by omega)
theorem readC_any (a:Nat→Addr)(form:List UInt8)(more early:Bool)(fv:Value)(p:Option Addr)(c:Nat)(ws:List (List UInt8))(W:World)(he:EC a W)(h4:Errs4 a W)(hf:more=true→0<form.length)(hfk:∀x∈form,x=72∨x=78∨x=70)(hws:ws.length≤10000)(hx:∀x∈ws,x.length≤5000)(hp:WordsAt W p ws) :
  Calls Tryz.prog 109 #[cmA form more early fv,.slice p ws.length c] W fun e W'=>Below W.heap.size W W'∧ReadR form more ws e W' W.heap.size:=by
 by_cases h:ws.length<form.length∨(form.length<ws.length∧more=false)
 ·exact readC_len form more early fv p c ws W h
 ·exact readC_scan a form more early fv p c ws W he h4 (fun q=>h (Or.inl q)) (fun q=>h (Or.inr q)) hf hfk hws hx hp
end Go.Proofs.YtfhmfjcpggddkaaGreatDoor
namespace Go.Proofs.YtfhmfjcpggddkaaGreatDoor
open Go.RowKit
def EvOf (a:Nat→Addr)(c:Nat)(ev:Value):Prop:=(c=0∧ev=.nilIface)∨∃j,c=j+1∧ev=.iface 378 (.pointer (some (a j)))
def PickR (nw:List ByteArray→Nat→Nat→ByteArray)(S:Lh.Bl)(k:Nat)(now:Int)(S':Lh.Bl)(s:ByteArray)(kept:Bool)(c:Nat):Prop :=
 (∃j,TickF S.la now j∧S'=S∧s=ByteArray.empty∧kept=false∧c=j+1) ∨
 (TickOk S.la now∧Lh.BKeeps S k now s∧kept=true∧c=0∧S'={ S with la:=now,L:=Lh.fput S.t S.L k s now }) ∨
 (TickOk S.la now∧(∀z,¬Lh.BKeeps S k now z)∧Lh.bopen S=[]∧s=ByteArray.empty∧kept=false∧c=5∧S'={ S with la:=now }) ∨
 (TickOk S.la now∧(∀z,¬Lh.BKeeps S k now z)∧Lh.bopen S≠[]∧s=nw (Lh.bopen S) S.size k∧kept=false∧c=0∧S'={ S with la:=now,L:=Lh.fput S.t S.L k s now })
def LookR (S:Lh.Bl)(s:ByteArray)(well:Bool)(S':Lh.Bl)(turned:Bool)(c:Nat):Prop :=
 (∃h:Lh.hix S.hs s<S.hs.length,turned=(Lh.hlook S.f S.r S.hs[Lh.hix S.hs s] well).2∧c=0∧S'=Lh.blook S s well S.hs[Lh.hix S.hs s]) ∨
 (¬Lh.hix S.hs s<S.hs.length∧turned=false∧c=5∧S'=S)
def DrainR (S:Lh.Bl)(s:ByteArray)(is:Bool)(S':Lh.Bl)(c:Nat):Prop :=
 (Lh.hix S.hs s<S.hs.length∧c=0∧S'={ S with dr:=Lh.bdrain S.dr s is })∨(¬Lh.hix S.hs s<S.hs.length∧c=5∧S'=S)
def ExportR (S:Lh.Bl)(S':Lh.Bl)(s:ByteArray)(c:Nat):Prop :=
 (S.ep<1099511627776∧s=Lh.bt (Lh.textL (S.ep+1).toNat S.L)∧c=0∧S'={ S with ep:=S.ep+1 })∨(¬S.ep<1099511627776∧s=ByteArray.empty∧c=2∧S'=S)
theorem keeps_one {S:Lh.Bl}{k:Nat}{now:Int}{s z:ByteArray}(h:Lh.BKeeps S k now s)(h':Lh.BKeeps S k now z):s=z:=by
 obtain⟨_,_,h,_⟩:=h
 obtain⟨_,_,h',_⟩:=h'
 exact h.symm.trans h'
section
variable {nw:List ByteArray→Nat→Nat→ByteArray} {S S':Lh.Bl} {k:Nat} {now:Int} {s z:ByteArray} {kept:Bool} {c:Nat}
theorem ok_not {la now:Int}{j:Nat}(h:TickOk la now)(h':TickF la now j):False:=by
 obtain⟨h1,h2,h3⟩:=h
 rcases h' with⟨h',_⟩|⟨_,_,h',_⟩<;>omega
theorem PickR.keep (h:PickR nw S k now S' s kept c)(ht:TickOk S.la now)(hz:Lh.BKeeps S k now z):s=z∧kept=true∧c=0∧S'={ S with la:=now,L:=Lh.fput S.t S.L k z now }:=by
 rcases h with⟨j,hf,_⟩|⟨_,hk,h1,h2,h3⟩|⟨_,hn,_⟩|⟨_,hn,_⟩
 ·exact (ok_not ht hf).elim
 ·obtain rfl:=keeps_one hk hz
  exact⟨rfl,h1,h2,h3⟩
 ·exact absurd hz (hn z)
 ·exact absurd hz (hn z)
theorem PickR.new (h:PickR nw S k now S' s kept c)(ht:TickOk S.la now)(hn:∀z,¬Lh.BKeeps S k now z)(ho:Lh.bopen S≠[]):s=nw (Lh.bopen S) S.size k∧kept=false∧c=0∧S'={ S with la:=now,L:=Lh.fput S.t S.L k s now }:=by
 rcases h with⟨j,hf,_⟩|⟨_,hk,_⟩|⟨_,_,h,_⟩|⟨_,_,_,h1,h2,h3,h4⟩
 ·exact (ok_not ht hf).elim
 ·exact absurd hk (hn s)
 ·exact absurd h ho
 ·exact⟨h1,h2,h3,h4⟩
end
def nA:ByteArray:=⟨#[97]⟩
def nB:ByteArray:=⟨#[98]⟩
def nC:ByteArray:=⟨#[99]⟩
def nD:ByteArray:=⟨#[100]⟩
def bnew0 (xs:List ByteArray)(n t:Nat):Lh.Bl:=⟨1,1,n,t,Lh.hnew xs,[],0,0,[]⟩
theorem bok_new {xs:List ByteArray}{n t:Nat}(hl:xs.length≤12)(hn:xs.Nodup)(hs:∀s∈xs,s.size≤300)(hnm:∀s∈xs,Lh.isNm s=true)(hp:Lh.Prm n)(h5:n≤503)(h1:1≤t)(h2:t≤1000):Lh.BOk (bnew0 xs n t):=by
 refine⟨Lh.hnew_ok (by simp[bnew0]) (by simp[bnew0]) (by simp[bnew0]) (by simp[bnew0]) hl hn hs,fun x hx=>?_,Lh.FlOk.nil,fun x hx=>?_,fun x hx=>?_,h1,h2,hp,h5,by simp[bnew0],by simp[bnew0],by simp[bnew0],by simp[bnew0]⟩
 ·obtain⟨y,hy,rfl⟩:=List.mem_map.1 hx
  exact hnm y hy
 ·exact absurd hx (by simp[bnew0])
 ·exact absurd hx (by simp[bnew0])
theorem prm_small {n:Nat}(h2:2≤n)(h:∀k:Fin n,2≤k.val→n % k.val≠0):Lh.Prm n:=⟨h2,fun k hk hlt=>h ⟨k,hlt⟩ hk⟩
theorem prm31:Lh.Prm 31:=prm_small (by decide) (by decide)
def four:List ByteArray:=[nA,nB,nC,nD]
section
variable {nw:List ByteArray→Nat→Nat→ByteArray}
theorem pickR_one {S S1 S2:Lh.Bl}{k:Nat}{now:Int}{s1 s2:ByteArray}{k1 k2:Bool}{c1 c2:Nat}(h:PickR nw S k now S1 s1 k1 c1)(h':PickR nw S k now S2 s2 k2 c2):S1=S2∧c1=c2:=by
 rcases h with⟨j,hf,rfl,rfl,rfl,rfl⟩|⟨ht,hk,rfl,rfl,rfl⟩|⟨ht,hn,ho,rfl,rfl,rfl,rfl⟩|⟨ht,hn,ho,rfl,rfl,rfl,rfl⟩
 ·rcases h' with⟨j',hf',rfl,rfl,rfl,rfl⟩|⟨ht',_⟩|⟨ht',_⟩|⟨ht',_⟩
  ·refine⟨rfl,?_⟩
   rcases hf with⟨h1,rfl⟩|⟨h1,h2,h3,rfl⟩<;>rcases hf' with⟨g1,rfl⟩|⟨g1,g2,g3,rfl⟩<;>first|rfl|omega
  all_goals exact (ok_not ht' hf).elim
 ·obtain⟨rfl,rfl,rfl,rfl⟩:=PickR.keep h' ht hk
  exact⟨rfl,rfl⟩
 ·rcases h' with⟨j',hf',_⟩|⟨_,hk',_⟩|⟨_,_,_,rfl,rfl,rfl,rfl⟩|⟨_,_,ho',_⟩
  ·exact (ok_not ht hf').elim
  ·exact absurd hk' (hn _)
  ·exact⟨rfl,rfl⟩
  ·exact absurd ho ho'
 ·obtain⟨rfl,rfl,rfl,rfl⟩:=PickR.new h' ht hn ho
  exact⟨rfl,rfl⟩
theorem drainR_one {S S1 S2:Lh.Bl}{s:ByteArray}{w:Bool}{c1 c2:Nat}(h:DrainR S s w S1 c1)(h':DrainR S s w S2 c2):S1=S2∧c1=c2:=by
 rcases h with⟨hx,rfl,rfl⟩|⟨hx,rfl,rfl⟩<;>rcases h' with⟨hx',rfl,rfl⟩|⟨hx',rfl,rfl⟩
 ·exact⟨rfl,rfl⟩
 ·exact absurd hx hx'
 ·exact absurd hx' hx
 ·exact⟨rfl,rfl⟩
theorem exportR_one {S S1 S2:Lh.Bl}{s1 s2:ByteArray}{c1 c2:Nat}(h:ExportR S S1 s1 c1)(h':ExportR S S2 s2 c2):S1=S2∧c1=c2:=by
 rcases h with⟨hx,rfl,rfl,rfl⟩|⟨hx,rfl,rfl,rfl⟩<;>rcases h' with⟨hx',rfl,rfl,rfl⟩|⟨hx',rfl,rfl,rfl⟩
 ·exact⟨rfl,rfl⟩
 ·exact absurd hx hx'
 ·exact absurd hx' hx
 ·exact⟨rfl,rfl⟩
end
section
variable {nw:List ByteArray→Nat→Nat→ByteArray}
theorem pickR_ok (hnwI:∀ {xs:List ByteArray} {n:Nat} (k:Nat),xs≠[]→Lh.Prm n→nw xs n k∈xs){S S':Lh.Bl}{k:Nat}{now:Int}{s:ByteArray}{kept:Bool}{c:Nat}(h:Lh.BOk S)(hk:k<18446744073709551616)(hp:PickR nw S k now S' s kept c):Lh.BOk S':=by
 rcases hp with⟨j,_,rfl,_⟩|⟨⟨h0,h1,_⟩,hkp,_,_,rfl⟩|⟨⟨h0,h1,_⟩,_,_,_,_,_,rfl⟩|⟨⟨h0,h1,_⟩,_,ho,rfl,_,_,rfl⟩
 ·exact h
 ·have hup:Lh.hup S.hs s=true:=by obtain⟨_,_,_,h⟩:=hkp;exact h
  obtain⟨hn,hs⟩:=Lh.hup_nm h hup
  exact h.put hk hn hs h0 h1
 ·exact h.tick h0 h1
 ·obtain⟨hn,hs⟩:=Lh.hup_nm h (Lh.bopen_mem.1 (hnwI k ho h.prm)).1
  exact h.put hk hn hs h0 h1
theorem lookR_ok {S S':Lh.Bl}{s:ByteArray}{w t:Bool}{c:Nat}(h:Lh.BOk S)(hl:LookR S s w S' t c):Lh.BOk S':=by
 rcases hl with⟨hx,_,_,rfl⟩|⟨_,_,_,rfl⟩
 ·exact h.look hx
 ·exact h
theorem drainR_ok {S S':Lh.Bl}{s:ByteArray}{w:Bool}{c:Nat}(h:Lh.BOk S)(hl:DrainR S s w S' c):Lh.BOk S':=by
 rcases hl with⟨_,_,rfl⟩|⟨_,_,rfl⟩
 ·exact h.drain _
 ·exact h
theorem exportR_ok {S S':Lh.Bl}{s:ByteArray}{c:Nat}(h:Lh.BOk S)(hl:ExportR S S' s c):Lh.BOk S':=by
 rcases hl with⟨hx,_,_,rfl⟩|⟨_,_,_,rfl⟩
 ·exact h.epoch (by have:=h.ep0;omega) (by omega)
 ·exact h
end
end Go.Proofs.YtfhmfjcpggddkaaGreatDoor
