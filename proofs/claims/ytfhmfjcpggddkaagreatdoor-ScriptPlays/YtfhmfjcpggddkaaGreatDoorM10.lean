/- A balance, as data: hosts, those that are drained, an epoch, the last tick, flows. -/
import Derived.Test.YtfhmfjcpggddkaaGreatDoorM9
import Derived.Test.YtfhmfjcpggddkaaGreatDoorM2
import Derived.Test.YtfhmfjcpggddkaaGreatDoorM3
import Derived.Test.YtfhmfjcpggddkaaGreatDoorM5
import Derived.Laws.Rows
import Derived.Test.YtfhmfjcpggddkaaGreatDoorM4
set_option maxHeartbeats 20000000
set_option maxRecDepth 100000
namespace Go.Proofs.YtfhmfjcpggddkaaGreatDoor
namespace Lh
structure Bl where
 f:Nat
 r:Nat
 size:Nat
 t:Nat
 hs:List Hh
 dr:List ByteArray
 ep:Int
 la:Int
 L:List Fl
def bopen (S:Bl):List ByteArray:=(hups S.hs).filter fun s=>!(S.dr.any fun x=>decide (x=s))
def BKeeps (S:Bl)(k:Nat)(now:Int)(s:ByteArray):Prop:=∃h:fix S.L k<S.L.length,now<(S.L[fix S.L k]).2.2∧(S.L[fix S.L k]).2.1=s∧hup S.hs s=true
def bdrain (dr:List ByteArray)(s:ByteArray)(is:Bool):List ByteArray:=(dr.filter fun x=>!decide (x=s))++if is then [s] else []
structure BOk (S:Bl):Prop where
 h:HOk S.f S.r S.hs
 nm:∀x∈S.hs,isNm x.1=true
 ok:FlOk S.L
 host:∀x∈S.L,isNm x.2.1=true
 hi:∀x∈S.L,x.2.2≤1099511628776
 t1:1≤S.t
 t2:S.t≤1000
 prm:Prm S.size
 s5:S.size≤503
 ep0:0≤S.ep
 ep1:S.ep≤1099511627776
 la0:0≤S.la
 la1:S.la≤1099511627776
theorem hup_iff {l:List Hh}{s:ByteArray}:hup l s=true↔∃x∈l,x.1=s∧x.2.1=true:=by
 unfold hup
 rw[List.any_eq_true]
 constructor
 ·rintro ⟨x,hx,h⟩
  simp at h
  exact⟨x,hx,h.1,h.2⟩
 ·rintro ⟨x,hx,h1,h2⟩
  exact⟨x,hx,by simp[h1,h2]⟩
theorem hups_mem {l:List Hh}{s:ByteArray}:s∈hups l↔hup l s=true:=by
 rw[hup_iff]
 unfold hups
 rw[List.mem_map]
 constructor
 ·rintro ⟨x,hx,rfl⟩
  rw[List.mem_filter] at hx
  exact⟨x,hx.1,rfl,hx.2⟩
 ·rintro ⟨x,hx,rfl,h⟩
  exact⟨x,List.mem_filter.2 ⟨hx,h⟩,rfl⟩
theorem bopen_mem {S:Bl}{s:ByteArray}:s∈bopen S↔hup S.hs s=true∧s∉S.dr:=by
 unfold bopen
 rw[List.mem_filter,hups_mem]
 constructor
 ·rintro ⟨h1,h2⟩
  refine⟨h1,fun hm=>?_⟩
  have:(S.dr.any fun x=>decide (x=s))=true:=List.any_eq_true.2 ⟨s,hm,by simp⟩
  rw[this] at h2
  cases h2
 ·rintro ⟨h1,h2⟩
  refine⟨h1,?_⟩
  have:(S.dr.any fun x=>decide (x=s))=false:=List.any_eq_false.2 fun x hx=>by
   intro e
   have e':x=s:=by simpa using e
   subst e'
   exact h2 hx
  rw[this]
  rfl
theorem hup_nm {S:Bl}(h:BOk S){s:ByteArray}(hu:hup S.hs s=true):isNm s=true∧s.size≤300:=by
 obtain⟨x,hx,rfl,_⟩:=hup_iff.1 hu
 exact⟨h.nm x hx,h.h.size x hx⟩
theorem BOk.put {S:Bl}(h:BOk S){k:Nat}(hk:k<18446744073709551616){s:ByteArray}(hn:isNm s=true)(hs:s.size≤300){now:Int}(h0:0≤now)(h1:now≤1099511627776):BOk { S with la:=now,L:=fput S.t S.L k s now }:=by
 refine⟨h.h,h.nm,h.ok.put hk hs h0 h1 h.t2,fun x hx=>?_,fun x hx=>?_,h.t1,h.t2,h.prm,h.s5,h.ep0,h.ep1,h0,h1⟩
 ·rcases flay_mem.1 hx with rfl|hx
  ·exact hn
  ·exact h.host x ((frest_sub _ _).mem hx)
 ·rcases flay_mem.1 hx with rfl|hx
  ·have:=h.t2
   show now+(S.t:Int)≤1099511628776
   omega
  ·exact h.hi x ((frest_sub _ _).mem hx)
theorem BOk.tick {S:Bl}(h:BOk S){now:Int}(h0:0≤now)(h1:now≤1099511627776):BOk { S with la:=now }:=⟨h.h,h.nm,h.ok,h.host,h.hi,h.t1,h.t2,h.prm,h.s5,h.ep0,h.ep1,h0,h1⟩
theorem BOk.drain {S:Bl}(h:BOk S)(dr:List ByteArray):BOk { S with dr:=dr }:=⟨h.h,h.nm,h.ok,h.host,h.hi,h.t1,h.t2,h.prm,h.s5,h.ep0,h.ep1,h.la0,h.la1⟩
theorem BOk.epoch {S:Bl}(h:BOk S){e:Int}(h0:0≤e)(h1:e≤1099511627776):BOk { S with ep:=e }:=⟨h.h,h.nm,h.ok,h.host,h.hi,h.t1,h.t2,h.prm,h.s5,h0,h1,h.la0,h.la1⟩
theorem BOk.sub {S:Bl}(h:BOk S){M:List Fl}(hM:M.Sublist S.L):BOk { S with L:=M }:=⟨h.h,h.nm,h.ok.sub hM,fun x hx=>h.host x (hM.mem hx),fun x hx=>h.hi x (hM.mem hx),h.t1,h.t2,h.prm,h.s5,h.ep0,h.ep1,h.la0,h.la1⟩
theorem BOk.hosts {S:Bl}(h:BOk S){l:List Hh}(hl:HOk S.f S.r l)(hn:∀x∈l,isNm x.1=true):BOk { S with hs:=l }:=⟨hl,hn,h.ok,h.host,h.hi,h.t1,h.t2,h.prm,h.s5,h.ep0,h.ep1,h.la0,h.la1⟩
def blook (S:Bl)(s:ByteArray)(well:Bool)(x:Hh):Bl :=
 { S with hs:=S.hs.set (hix S.hs s) (hlook S.f S.r x well).1,L:=if (hlook S.f S.r x well).2=true∧(hlook S.f S.r x well).1.2.1=false then fdrop S.L s else S.L }
theorem BOk.look {S:Bl}(h:BOk S){s:ByteArray}{well:Bool}(hx:hix S.hs s<S.hs.length):BOk (blook S s well S.hs[hix S.hs s]):=by
 have hn:∀y∈S.hs.set (hix S.hs s) (hlook S.f S.r S.hs[hix S.hs s] well).1,isNm y.1=true:=fun y hy=>by
  rcases List.mem_or_eq_of_mem_set hy with hy|rfl
  ·exact h.nm y hy
  ·rw[hlook_name]
   exact h.nm _ (List.getElem_mem hx)
 have h2:=h.hosts (h.h.look hx well) hn
 unfold blook
 split
 ·exact h2.sub (List.filter_sublist)
 ·exact h2
theorem fput_mem {t:Nat}{L:List Fl}{k:Nat}{s:ByteArray}{now:Int}{x:Fl}(hx:x∈fput t L k s now):x=(k,s,now+(t:Int))∨x∈L:=by
 rcases flay_mem.1 hx with h|h
 ·exact Or.inl h
 ·exact Or.inr ((frest_sub _ _).mem h)
end Lh
namespace Lh
def wHosts:List UInt8:=[104,111,115,116,115]
def wMoves:List UInt8:=[109,111,118,101,115]
def wTable:List UInt8:=[116,97,98,108,101]
def wRival:List UInt8:=[114,105,118,97,108]
def wPick:List UInt8:=[112,105,99,107]
def wTick:List UInt8:=[116,105,99,107]
def wRing:List UInt8:=[114,105,110,103]
def wJump:List UInt8:=[106,117,109,112]
def wLook:List UInt8:=[108,111,111,107]
def wDrain:List UInt8:=[100,114,97,105,110]
def wUp:List UInt8:=[117,112]
def wFlows:List UInt8:=[102,108,111,119,115]
def wExport:List UInt8:=[101,120,112,111,114,116]
def tOk:List UInt8:=[111,107]
def tNew:List UInt8:=[32,110,101,119]
def tKept:List UInt8:=[32,107,101,112,116]
def tTurned:List UInt8:=[116,117,114,110,101,100]
def tSame:List UInt8:=[115,97,109,101]
def tNothing:List UInt8:=[110,111,116,104,105,110,103]
def tLev:List UInt8:=[108,101,118,101,108,104,97,110,100,58,32]
def errT:Nat→List UInt8
 | 1=>tLev++[116,101,120,116]
 | 2=>tLev++[98,111,117,110,100]
 | 3=>tLev++[115,104,97,112,101]
 | 4=>tLev++[110,97,109,101]
 | 5=>tLev++[110,111,110,101]
 | 6=>tLev++[101,120,105,115,116]
 | 7=>tLev++[102,117,108,108]
 | 8=>tLev++[111,108,100]
 | 9=>tLev++[115,117,109]
 | _=>[]
def formW (w:List UInt8):Option (Int × Nat) :=
 if w=wHosts then some (-1,0) else if w=wMoves then some (-1,1)
 else if w=wTable∨w=wRival∨w=wPick∨w=wTick then some (0,1)
 else if w=wRing∨w=wJump then some (0,2)
 else if w=wLook∨w=wDrain then some (1,1)
 else if w=wUp∨w=wFlows∨w=wExport then some (0,0)
 else none
structure Cm where
 w:List UInt8
 H:List ByteArray
 N:List Nat
def numW (l:List UInt8):Option Nat:=if 7<l.length then none else numL l
def namesW (r:List (List UInt8)):Bool:=r.all fun x=>isNm (bt x)
def restW (w:List UInt8)(h:Int)(n:Nat)(r:List (List UInt8)):Option Cm :=
 if w=wMoves then
  match r with
  | x :: hs=>match numW x with
   | some k=>if hs≠[]∧namesW hs=true then some ⟨w,hs.map bt,[k]⟩ else none
   | none=>none
  | []=>none
 else if h = -1 then (if r≠[]∧namesW r=true then some ⟨w,r.map bt,[]⟩ else none)
 else if h=1 then
  match r with
  | [x,y]=>match numW y with
   | some k=>if isNm (bt x)=true∧k≤1 then some ⟨w,[bt x],[k]⟩ else none
   | none=>none
  | _=>none
 else match r.mapM numW with
  | some ks=>if ks.length=n then some ⟨w,[],ks⟩ else none
  | none=>none
def wordsC:List (List UInt8)→Option Cm
 | []=>none
 | w :: r=>match formW w with
  | none=>none
  | some (h,n)=>restW w h n r
def cmOf (s:List UInt8):Option Cm:=wordsC (cutL 32 s)
structure CmOk (c:Cm)(h:Int)(n:Nat):Prop where
 form:formW c.w=some (h,n)
 num:c.N.length=n
 one:0≤h→(c.H.length:Int)=h
 any:h<0→c.H≠[]
 nm:∀s∈c.H,isNm s=true
 hi:∀k∈c.N,k≤9999999
 bit:h=1→∀k∈c.N,k≤1
def wordsOf (c:Cm):List (List UInt8) :=
 if c.w=wMoves then c.w :: (c.N.map decL++c.H.map fun s=>s.data.toList) else c.w :: (c.H.map (fun s=>s.data.toList)++c.N.map decL)
def lineL (c:Cm):List UInt8:=joinL 32 (wordsOf c)
theorem numW_dec {n:Nat}(h:n≤9999999):numW (decL n)=some n:=by
 unfold numW
 have hl:(decL n).length≤7:=decL_len (by decide) (by omega)
 rw[if_neg (by omega)]
 exact numL_dec (by omega)
theorem mapM_dec:∀ {l:List Nat},(∀k∈l,k≤9999999)→(l.map decL).mapM numW=some l
 | [],_=>rfl
 | k :: l,h=>by
  rw[List.map_cons,List.mapM_cons,numW_dec (h k (by simp)),mapM_dec fun z hz=>h z (by simp[hz])]
  rfl
theorem bt_back (s:ByteArray):bt s.data.toList=s:=by
 cases s
 rfl
theorem map_bt (l:List ByteArray):(l.map fun s=>s.data.toList).map bt=l:=by
 rw[List.map_map]
 have:(bt ∘ fun s:ByteArray=>s.data.toList)=id:=funext fun s=>bt_back s
 rw[this,List.map_id]
theorem names_of {l:List ByteArray}(h:∀s∈l,isNm s=true):namesW (l.map fun s=>s.data.toList)=true:=by
 unfold namesW
 rw[List.all_eq_true]
 intro x hx
 obtain⟨s,hs,rfl⟩:=List.mem_map.1 hx
 rw[bt_back]
 exact h s hs
theorem form_moves {h:Int}{n:Nat}(hf:formW wMoves=some (h,n)):h = -1∧n=1:=by
 have:formW wMoves=some (-1,1):=by decide
 rw[this] at hf
 injection hf with hf
 injection hf with h1 h2
 exact⟨h1.symm,h2.symm⟩
theorem form_any {w:List UInt8}{n:Nat}(hf:formW w=some (-1,n))(hm:w≠wMoves):n=0:=by
 unfold formW at hf
 by_cases h0:w=wHosts
 ·rw[if_pos h0] at hf
  injection hf with hf
  injection hf with _ h2
  exact h2.symm
 ·rw[if_neg h0,if_neg hm] at hf
  exfalso
  repeat' split at hf
  all_goals simp at hf
theorem form_three {w:List UInt8}{h:Int}{n:Nat}(hf:formW w=some (h,n)):h = -1∨h=0∨(h=1∧n=1):=by
 unfold formW at hf
 repeat' split at hf
 all_goals first|(simp at hf;omega)|cases hf
theorem words_back {c:Cm}{h:Int}{n:Nat}(hc:CmOk c h n):wordsC (wordsOf c)=some c:=by
 obtain⟨w,H,N⟩:=c
 obtain⟨hf,hn,h1,ha,hnm,hhi,hbit⟩:=hc
 simp only at hf hn h1 ha hnm hhi hbit
 unfold wordsOf
 by_cases hm:w=wMoves
 ·subst hm
  obtain⟨rfl,rfl⟩:=form_moves hf
  rw[if_pos rfl]
  simp only[wordsC,hf,restW,if_true]
  obtain⟨k,rfl⟩:=List.length_eq_one_iff.1 hn
  simp only[List.map_cons,List.map_nil,List.singleton_append]
  rw[numW_dec (hhi k (by simp))]
  simp only
  rw[if_pos ⟨by simpa using ha (by decide),names_of hnm⟩,map_bt]
 ·rw[if_neg hm]
  simp only[wordsC,hf,restW,if_neg hm]
  rcases form_three hf with rfl|rfl|⟨rfl,rfl⟩
  ·obtain rfl:=form_any hf hm
   obtain rfl:=List.length_eq_zero_iff.1 hn
   simp only[List.map_nil,List.append_nil,if_true]
   rw[if_pos ⟨by simpa using ha (by decide),names_of hnm⟩,map_bt]
  ·have h0:H=[]:=List.length_eq_zero_iff.1 (by have:=h1 (by decide);omega)
   subst h0
   rw[if_neg (by decide),if_neg (by decide)]
   simp only[List.map_nil,List.nil_append]
   rw[mapM_dec hhi]
   simp only
   rw[if_pos hn]
  ·obtain⟨s,rfl⟩:=List.length_eq_one_iff.1 (show H.length=1 by have:=h1 (by decide);omega)
   obtain⟨k,rfl⟩:=List.length_eq_one_iff.1 hn
   rw[if_neg (by decide),if_pos rfl]
   simp only[List.map_cons,List.map_nil,List.singleton_append]
   rw[numW_dec (hhi k (by simp))]
   simp only[bt_back]
   rw[if_pos ⟨hnm s (by simp),hbit rfl k (by simp)⟩]
end Lh
end Go.Proofs.YtfhmfjcpggddkaaGreatDoor
namespace Go.Proofs.YtfhmfjcpggddkaaGreatDoor
open Go.RowKit Lh
def clo (f q:Nat):Value:=.func (.func f) #[] #[.pointer (some ⟨q,0,none⟩)]
def cmA (form:List UInt8)(more early:Bool)(f:Value):Value:=.agg #[.string (bt form),.bool more,.bool early,f]
def cmTab (q:Nat):List (ByteArray × Value):=[
 (bt wHosts,cmA [72] true true (clo 31 q)),
 (bt wTable,cmA [78] false false (clo 33 q)),
 (bt wMoves,cmA [78,72] true false (clo 35 q)),
 (bt wRing,cmA [78,78] false false (clo 38 q)),
 (bt wRival,cmA [78] false false (clo 40 q)),
 (bt wJump,cmA [78,78] false true (.func (.func 43) #[] #[])),
 (bt wPick,cmA [78] false false (clo 45 q)),
 (bt wLook,cmA [72,70] false false (clo 47 q)),
 (bt wDrain,cmA [72,70] false false (clo 50 q)),
 (bt wTick,cmA [78] false false (clo 52 q)),
 (bt wUp,cmA [] false false (clo 53 q)),
 (bt wFlows,cmA [] false false (clo 56 q)),
 (bt wExport,cmA [] false false (clo 58 q))]
theorem commands_any (p:Nat)(W:World) :
  Calls Tryz.prog 15 #[.pointer (some ⟨p,0,none⟩)] W fun e W'=>e=.returned (.map (some (W.heap.size+1)))∧MapIs W' (W.heap.size+1) (cmTab W.heap.size)∧W'.cell? ⟨W.heap.size,0,none⟩=some (.pointer (some ⟨p,0,none⟩))∧Below W.heap.size W W'∧W'.heap.size=W.heap.size+2:=by
 have hmm:=@run_makeMap Tryz.prog
 have hM0:MapIs ((W.alloc (.cells #[.pointer (some ⟨p,0,none⟩)] 48)).alloc (.map #[] 0)) (W.heap.size+1) []:=by
  have:=mapIs_made (W.alloc (.cells #[.pointer (some ⟨p,0,none⟩)] 48))
  rwa [World.size_alloc] at this
 obtain⟨w1,r1,hM1,hb1,z1⟩:=hM0.ins (P:=Tryz.prog) Tryz.underlying52 Tryz.underlying9 ⟨#[104,111,115,116,115]⟩ (.agg #[.string ⟨#[72]⟩,.bool true,.bool true,.func (.func 31) #[] #[.pointer (some ⟨W.heap.size,0,none⟩)]]) [] rfl (by decide)
 obtain⟨w2,r2,hM2,hb2,z2⟩:=hM1.ins (P:=Tryz.prog) Tryz.underlying52 Tryz.underlying9 ⟨#[116,97,98,108,101]⟩ (.agg #[.string ⟨#[78]⟩,.bool false,.bool false,.func (.func 33) #[] #[.pointer (some ⟨W.heap.size,0,none⟩)]]) [[104,111,115,116,115]] rfl (by decide)
 obtain⟨w3,r3,hM3,hb3,z3⟩:=hM2.ins (P:=Tryz.prog) Tryz.underlying52 Tryz.underlying9 ⟨#[109,111,118,101,115]⟩ (.agg #[.string ⟨#[78,72]⟩,.bool true,.bool false,.func (.func 35) #[] #[.pointer (some ⟨W.heap.size,0,none⟩)]]) [[104,111,115,116,115],[116,97,98,108,101]] rfl (by decide)
 obtain⟨w4,r4,hM4,hb4,z4⟩:=hM3.ins (P:=Tryz.prog) Tryz.underlying52 Tryz.underlying9 ⟨#[114,105,110,103]⟩ (.agg #[.string ⟨#[78,78]⟩,.bool false,.bool false,.func (.func 38) #[] #[.pointer (some ⟨W.heap.size,0,none⟩)]]) [[104,111,115,116,115],[116,97,98,108,101],[109,111,118,101,115]] rfl (by decide)
 obtain⟨w5,r5,hM5,hb5,z5⟩:=hM4.ins (P:=Tryz.prog) Tryz.underlying52 Tryz.underlying9 ⟨#[114,105,118,97,108]⟩ (.agg #[.string ⟨#[78]⟩,.bool false,.bool false,.func (.func 40) #[] #[.pointer (some ⟨W.heap.size,0,none⟩)]]) [[104,111,115,116,115],[116,97,98,108,101],[109,111,118,101,115],[114,105,110,103]] rfl (by decide)
 obtain⟨w6,r6,hM6,hb6,z6⟩:=hM5.ins (P:=Tryz.prog) Tryz.underlying52 Tryz.underlying9 ⟨#[106,117,109,112]⟩ (.agg #[.string ⟨#[78,78]⟩,.bool false,.bool true,.func (.func 43) #[] #[]]) [[104,111,115,116,115],[116,97,98,108,101],[109,111,118,101,115],[114,105,110,103],[114,105,118,97,108]] rfl (by decide)
 obtain⟨w7,r7,hM7,hb7,z7⟩:=hM6.ins (P:=Tryz.prog) Tryz.underlying52 Tryz.underlying9 ⟨#[112,105,99,107]⟩ (.agg #[.string ⟨#[78]⟩,.bool false,.bool false,.func (.func 45) #[] #[.pointer (some ⟨W.heap.size,0,none⟩)]]) [[104,111,115,116,115],[116,97,98,108,101],[109,111,118,101,115],[114,105,110,103],[114,105,118,97,108],[106,117,109,112]] rfl (by decide)
 obtain⟨w8,r8,hM8,hb8,z8⟩:=hM7.ins (P:=Tryz.prog) Tryz.underlying52 Tryz.underlying9 ⟨#[108,111,111,107]⟩ (.agg #[.string ⟨#[72,70]⟩,.bool false,.bool false,.func (.func 47) #[] #[.pointer (some ⟨W.heap.size,0,none⟩)]]) [[104,111,115,116,115],[116,97,98,108,101],[109,111,118,101,115],[114,105,110,103],[114,105,118,97,108],[106,117,109,112],[112,105,99,107]] rfl (by decide)
 obtain⟨w9,r9,hM9,hb9,z9⟩:=hM8.ins (P:=Tryz.prog) Tryz.underlying52 Tryz.underlying9 ⟨#[100,114,97,105,110]⟩ (.agg #[.string ⟨#[72,70]⟩,.bool false,.bool false,.func (.func 50) #[] #[.pointer (some ⟨W.heap.size,0,none⟩)]]) [[104,111,115,116,115],[116,97,98,108,101],[109,111,118,101,115],[114,105,110,103],[114,105,118,97,108],[106,117,109,112],[112,105,99,107],[108,111,111,107]] rfl (by decide)
 obtain⟨w10,r10,hM10,hb10,z10⟩:=hM9.ins (P:=Tryz.prog) Tryz.underlying52 Tryz.underlying9 ⟨#[116,105,99,107]⟩ (.agg #[.string ⟨#[78]⟩,.bool false,.bool false,.func (.func 52) #[] #[.pointer (some ⟨W.heap.size,0,none⟩)]]) [[104,111,115,116,115],[116,97,98,108,101],[109,111,118,101,115],[114,105,110,103],[114,105,118,97,108],[106,117,109,112],[112,105,99,107],[108,111,111,107],[100,114,97,105,110]] rfl (by decide)
 obtain⟨w11,r11,hM11,hb11,z11⟩:=hM10.ins (P:=Tryz.prog) Tryz.underlying52 Tryz.underlying9 ⟨#[117,112]⟩ (.agg #[.string ⟨#[]⟩,.bool false,.bool false,.func (.func 53) #[] #[.pointer (some ⟨W.heap.size,0,none⟩)]]) [[104,111,115,116,115],[116,97,98,108,101],[109,111,118,101,115],[114,105,110,103],[114,105,118,97,108],[106,117,109,112],[112,105,99,107],[108,111,111,107],[100,114,97,105,110],[116,105,99,107]] rfl (by decide)
 obtain⟨w12,r12,hM12,hb12,z12⟩:=hM11.ins (P:=Tryz.prog) Tryz.underlying52 Tryz.underlying9 ⟨#[102,108,111,119,115]⟩ (.agg #[.string ⟨#[]⟩,.bool false,.bool false,.func (.func 56) #[] #[.pointer (some ⟨W.heap.size,0,none⟩)]]) [[104,111,115,116,115],[116,97,98,108,101],[109,111,118,101,115],[114,105,110,103],[114,105,118,97,108],[106,117,109,112],[112,105,99,107],[108,111,111,107],[100,114,97,105,110],[116,105,99,107],[117,112]] rfl (by decide)
 obtain⟨w13,r13,hM13,hb13,z13⟩:=hM12.ins (P:=Tryz.prog) Tryz.underlying52 Tryz.underlying9 ⟨#[101,120,112,111,114,116]⟩ (.agg #[.string ⟨#[]⟩,.bool false,.bool false,.func (.func 58) #[] #[.pointer (some ⟨W.heap.size,0,none⟩)]]) [[104,111,115,116,115],[116,97,98,108,101],[109,111,118,101,115],[114,105,110,103],[114,105,118,97,108],[106,117,109,112],[112,105,99,107],[108,111,111,107],[100,114,97,105,110],[116,105,99,107],[117,112],[102,108,111,119,115]] rfl (by decide)
 have HM:Hid (MapIs w13 (W.heap.size+1) (cmTab W.heap.size)):=hM13
 have HB:Hid (Below (W.heap.size+1) ((W.alloc (.cells #[.pointer (some ⟨p,0,none⟩)] 48)).alloc (.map #[] 0)) w13):=hb1.trans (hb2.trans (hb3.trans (hb4.trans (hb5.trans (hb6.trans (hb7.trans (hb8.trans (hb9.trans (hb10.trans (hb11.trans (hb12.trans hb13)))))))))))
 have HZ:Hid (w13.heap.size=W.heap.size+2):=by
  show _=_
  rw[z13,z12,z11,z10,z9,z8,z7,z6,z5,z4,z3,z2,z1]
  simp
 clear z1 z2 z3 z4 z5 z6 z7 z8 z9 z10 z11 z12 z13 hM0 hM1 hb1 hM2 hb2 hM3 hb3 hM4 hb4 hM5 hb5 hM6 hb6 hM7 hb7 hM8 hb8 hM9 hb9 hM10 hb10 hM11 hb11 hM12 hb12 hM13 hb13
 go_enter Tryz.func15,Tryz.ntmps15
 go_wp2
 go_ret
 have hA:Below W.heap.size W ((W.alloc (.cells #[.pointer (some ⟨p,0,none⟩)] 48)).alloc (.map #[] 0)):=((Below.refl _ _).alloc (Nat.le_refl _) _).alloc (by simp) _
 refine⟨rfl,HM.out,?_,hA.trans (HB.out.mono (Nat.le_succ _)),HZ.out⟩
 rw[World.cell?_of_block (w:=(W.alloc (.cells #[.pointer (some ⟨p,0,none⟩)] 48)).alloc (.map #[] 0)) (HB.out.block _ (Nat.lt_succ_self _))]
 simp
def Told (j:Nat):Prop:=j=0∨j=1∨j=2∨j=3∨j=4∨j=5∨j=7
def ErrT (a:Nat→Addr)(W:World):Prop:=∀j,Told j→W.cell? (a j)=some (.string (bt (errT (j+1))))
theorem ErrT.later {a:Nat→Addr}{W W':World}(h:ErrT a W)(hb:Below W.heap.size W W'):ErrT a W':=fun j hj=>below_cell hb (h j hj)
theorem sent_error (x:Addr)(s:ByteArray)(W:World)(h:W.cell? x=some (.string s)) :
  Calls Tryz.prog 374 #[.pointer (some x)] W fun e W'=>e=.returned (.string s)∧W'=W:=by
 obtain⟨b,o,pt⟩:=x
 go_enter Tryz.func374,Tryz.ntmps374
 go_wp2
 go_ret
 exact⟨rfl,rfl⟩
theorem methodE (x : Value) (w : World) : (method 516 378 x "Error").run Tryz.prog w = .ok (374, x) w := by kernel_rfl
theorem methodF (x : Value) (w : World) : (method 516 103 x "Error").run Tryz.prog w = .ok (343, x) w := by kernel_rfl
theorem fault_error (b:Nat)(x:Addr)(s:ByteArray)(W:World)(h1:W.cell? ⟨b,1,none⟩=some (.iface 378 (.pointer (some x))))(h:W.cell? x=some (.string s)) :
  Calls Tryz.prog 343 #[.pointer (some ⟨b,0,none⟩)] W fun e W'=>e=.returned (.string s)∧W'=W:=by
 have hs:=sent_error x s W h
 have hi:=methodE
 go_enter Tryz.func343,Tryz.ntmps343
 go_wp2_with fail
 refine hs.mono ?_
 rintro e w' ⟨rfl,rfl⟩
 go_wp2
 go_ret
 exact⟨rfl,rfl⟩
theorem errTold {c:Nat}(h:c≤9)(h7:c≠7)(h9:c≠9):Told (c - 1):=by
 unfold Told
 omega
end Go.Proofs.YtfhmfjcpggddkaaGreatDoor
namespace Go.Proofs.YtfhmfjcpggddkaaGreatDoor
open Go.RowKit
theorem Lh.numW_long {s:List UInt8}(h:¬s.length≤7):Lh.numW s=none:=by
 unfold Lh.numW
 rw[if_pos (by omega)]
theorem Lh.numW_short {s:List UInt8}(h:s.length≤7):Lh.numW s=Lh.numL s:=by
 unfold Lh.numW
 rw[if_neg (by omega)]
theorem readNum_any {a:Nat→Addr}(s:List UInt8)(hs:s.length≤100000)(w:World)(he:EC a w) :
  Calls Tryz.prog 217 #[.string (Lh.bt s)] w fun e w'=>Below w.heap.size w w' ∧
   ((∃m:Nat,Lh.numW s=some m∧e=.returned (.tuple #[.int .i64 (m:Nat),.bool true]))∨(Lh.numW s=none∧∃x,e=.returned (.tuple #[.int .i64 x,.bool false]))):=by
 have ha:=atoi_any s hs w he
 have HE:Hid (EC a w):=he
 have hsz:(Lh.bt s).size=s.length:=by simp[Lh.bt,ByteArray.size]
 clear he
 go_enter Tryz.func217,Tryz.ntmps217
 go_wp2_with fail
 refine ha.mono ?_
 rintro e w1 ⟨hb1,⟨v,hv,rfl⟩|⟨hn,x,t,p,rfl⟩⟩
 case inr =>
  have hnone:Lh.numW s=none:=by
   unfold Lh.numW
   split
   ·rfl
   ·cases h:Lh.numL s with
    | none=>rfl
    | some m=>exact absurd (Lh.atoi_num h).1 (hn _)
  clear ha hn
  go_wp2
  go_ret2
  exact⟨hb1,Or.inr ⟨hnone,_,rfl⟩⟩
 clear ha
 by_cases hv0:0≤v
 case neg =>
  have hn:Lh.numW s=none:=by
   unfold Lh.numW
   split
   ·rfl
   ·cases h:Lh.numL s with
    | none=>rfl
    | some m =>
     have:=(Lh.atoi_num h).1
     rw[hv] at this
     injection this with this
     omega
  have hd:decide (0≤v)=false:=by simp;omega
  have HN:Hid (Lh.numW s=none):=hn
  clear hv hn
  go_wp2_with fail
  go_ret2
  exact⟨hb1,Or.inr ⟨HN.out,_,rfl⟩⟩
 by_cases h7:s.length≤7
 case neg =>
  have HN:Hid (Lh.numW s=none):=Lh.numW_long h7
  have hsl:decide ((s.length:Int)≤7)=false:=by simp;omega
  clear hv h7
  go_wp2_with fail
  go_ret2
  exact⟨hb1,Or.inr ⟨HN.out,_,rfl⟩⟩
 have hns:=Lh.numW_short h7
 cases hn:Lh.numL s with
 | some m =>
  have HNS:Hid (Lh.numW s=some m):=hns.trans hn
  obtain⟨q1,q2,q3,q4⟩:=Lh.atoi_num hn
  obtain rfl:v=(m:Int):=by
   rw[q1] at hv
   cases hv
   rfl
  have hq:Lh.decL m=s:=by rw[←Lh.itoa_dec];exact q3
  have hi:=itoa_any m (by omega) w1 (HE.out.later hb1)
  rw[hq] at hi
  have hsl:(s.length:Int)≤7:=by omega
  have heq:((Lh.bt s).toList==(Lh.bt s).toList)=true:=by simp
  clear hv q1 q2 q3 q4 hn hq hns h7 hv0
  go_wp2_with (first|(go_at_call 87;refine hi.mono ?_;rintro e w2 ⟨rfl,hb2⟩))
  go_ret2
  exact⟨below_then hb1 hb2,Or.inl ⟨m,HNS.out,rfl⟩⟩
 | none =>
  have HNN:Hid (Lh.numW s=none):=hns.trans hn
  have hne:=Lh.atoi_none hn hv0 (by omega)
  obtain⟨n,rfl⟩:=Int.eq_ofNat_of_zero_le hv0
  have hnb:n≤9223372036854775807:=by
   have:=Lib.atoiAll_bounds hv
   omega
  rw[Lh.itoa_dec] at hne
  have hi:=itoa_any n hnb w1 (HE.out.later hb1)
  have hsl:(s.length:Int)≤7:=by omega
  have heq:((Lh.bt (Lh.decL n)).toList==(Lh.bt s).toList)=false:=by
   rw[Lh.bt_list,Lh.bt_list,beq_eq_false_iff_ne]
   exact hne
  clear hv hn hne hns h7
  go_wp2_with (first|(go_at_call 87;refine hi.mono ?_;rintro e w2 ⟨rfl,hb2⟩))
  go_ret2
  exact⟨below_then hb1 hb2,Or.inr ⟨HNN.out,_,rfl⟩⟩
def IntRow (w:World)(g:Nat)(xs:List Int):Prop:=w.heap[g]?=some (.cells (xs.map (Value.int .i64)).toArray 3 (0,0))
section
variable {w w':World} {g:Nat} {xs:List Int}
theorem IntRow.cell (h:IntRow w g xs){k:Nat}(hk:k<xs.length):w.cell? ⟨g,k,none⟩=some (.int .i64 xs[k]):=by
 rw[cell_of_row w g k _ _ _ h]
 simp[hk]
theorem IntRow.frozen (h:IntRow w g xs)(k:Nat):w.frozen? ⟨g,k,none⟩=false:=frozen_of_row w g k _ _ h
theorem IntRow.set (h:IntRow w g xs)(k:Nat)(v:Int):IntRow (w.setCell ⟨g,k,none⟩ (.int .i64 v)) g (xs.set k v):=by
 have:=heap_setCell_same w g k _ _ (.int .i64 v) h
 unfold IntRow
 rw[this]
 simp[List.map_set]
theorem IntRow.same (h:IntRow w g xs)(he:w'.heap[g]?=w.heap[g]?):IntRow w' g xs:=by
 unfold IntRow
 rw[he]
 exact h
theorem IntRow.lt (h:IntRow w g xs):g<w.heap.size:=(Array.getElem?_eq_some_iff.1 h).1
theorem IntRow.later (h:IntRow w g xs)(hb:Below w.heap.size w w'):IntRow w' g xs:=h.same (hb.block g h.lt)
theorem IntRow.of_owns {base n:Nat}(h:w.ownsRow base 3 1 (.slice (some ⟨g,0,none⟩) n n) n (xs.map (Value.int .i64))):IntRow w g xs:=by
 rcases h.2 with⟨h',_⟩|⟨g',cap',cur,h',_,hg,_,_,hcs,ht⟩
 ·simp at h'
 ·simp only[Value.slice.injEq,Option.some.injEq,Addr.mk.injEq,and_true,true_and] at h'
  obtain⟨rfl,rfl⟩:=h'
  unfold IntRow
  rw[hg,←ht,List.take_of_length_le (by simp;omega)]
end
theorem infoI:(Tryz.prog.info? 3).map (fun i=>(i.zero,i.size,i.bytes))=some (some (.int .i64 0),1,8):=by kernel_rfl
theorem ints_oneCell1 (x:Int):∀u∈[Value.int .i64 x],u.oneCell'=true:=by
 intro u hu
 simp at hu
 subst hu
 rfl
theorem ints_of_owns {w:World}{base n:Nat}{v:Value}{xs:List Int}(h:w.ownsRow base 3 1 v n (xs.map (Value.int .i64))):Ints w v xs:=by
 have hl:xs.length=n:=by simpa using h.1
 rcases h.2 with⟨rfl,rfl⟩|⟨g,cap,cur,rfl,_⟩
 ·exact Or.inl ⟨List.length_eq_zero_iff.1 hl,_,_,rfl⟩
 ·refine Or.inr ⟨g,0,cap,by rw[hl],fun k hk=>?_⟩
  rw[Nat.zero_add,h.cellAt k (by omega)]
  simp[hk]
theorem made_ints2 (n:Nat):(madeCells #[Value.int .i64 0] n).toList=(List.replicate n (0:Int)).map (Value.int .i64):=by
 rw[toList_madeCells_one]
 simp
theorem owns_head {w:World}{base m:Nat}{v:Value}{xs:List Int}(h:w.ownsRow base 3 1 v m (xs.map (Value.int .i64)))(hm:0<m) :
  ∃g c,v=.slice (some ⟨g,0,none⟩) m c∧m≤c∧∀j (hj:j<xs.length),w.cell? ⟨g,j,none⟩=some (.int .i64 xs[j]):=by
 have hl:xs.length=m:=by simpa using h.1
 have h':=h
 rcases h.2 with⟨_,hn⟩|⟨g,cap,cur,rfl,hg,_,hmc,_⟩
 ·omega
 ·refine⟨g,cap,rfl,by omega,fun j hj=>?_⟩
  rw[h'.cellAt j (by omega)]
  simp[hj]
structure Mh where
 name:ByteArray
 up:Bool
 looks:List Bool
 val:Value
def trail (up:Bool)(looks:List Bool):Nat:=(looks.reverse.takeWhile fun b=>b != up).length
def Mh.st (x:Mh):Lh.Hh:=(x.name,x.up,trail x.up x.looks)
def hst (L:List Mh):List Lh.Hh:=L.map Mh.st
theorem hst_length (L:List Mh):(hst L).length=L.length:=by simp[hst]
theorem hst_get (L:List Mh){i:Nat}(h:i<(hst L).length):(hst L)[i]=(L[i]'(by simpa [hst] using h)).st:=by simp[hst]
def encH (x:Mh):List Value:=[.string x.name,.bool x.up,x.val]
def flatH (L:List Mh):List Value:=L.flatMap encH
theorem flatH_snoc (L:List Mh)(x:Mh):flatH (L++[x])=flatH L++encH x:=by simp[flatH,List.flatMap_append]
theorem flatH_get (L:List Mh):∀i (h:i<L.length),(flatH L)[i*3]?=some (.string L[i].name)∧(flatH L)[i*3+1]?=some (.bool L[i].up)∧(flatH L)[i*3+2]?=some L[i].val:=by
 induction L with
 | nil=>intro i h;cases h
 | cons p P ih =>
  intro i h
  have e:flatH (p :: P)=.string p.name :: .bool p.up :: p.val :: flatH P:=rfl
  rw[e]
  match i,h with
  | 0,_=>exact⟨rfl,rfl,rfl⟩
  | i+1,h =>
   have:=ih i (by simpa using h)
   rw[show (i+1)*3=i*3+1+1+1 by omega]
   simpa using this
structure MH (W:World)(m f r:Nat)(L:List Mh)(lv:Value):Prop where
 c0:W.cell? ⟨m,0,none⟩=some (.int .i64 (f:Nat))
 c1:W.cell? ⟨m,1,none⟩=some (.int .i64 (r:Nat))
 c2:W.cell? ⟨m,2,none⟩=some lv
 fz:∀k,W.frozen? ⟨m,k,none⟩=false
 own:W.ownsRow (m+1) 127 3 lv L.length (flatH L)
 looks:∀x∈L,W.ownsRow (m+1) 4 1 x.val x.looks.length (x.looks.map Value.bool)
 apart:∀x∈L,x.val.ownBlock=none∨x.val.ownBlock≠lv.ownBlock
 pair:L.Pairwise fun x y=>x.val.ownBlock=none∨x.val.ownBlock≠y.val.ownBlock
def MFoot (m:Nat)(L:List Mh)(lv:Value)(b:Nat):Prop:=b=m∨lv.ownBlock=some b∨∃x∈L,x.val.ownBlock=some b
theorem owns_same {w w':World}{base:Nat}{e:TypeId}{size:Nat}{v:Value}{n:Nat}{xs:List Value}(h:w.ownsRow base e size v n xs)(he:∀g,v.ownBlock=some g→w'.heap[g]?=w.heap[g]?):w'.ownsRow base e size v n xs:=by
 obtain⟨h1,h2|⟨g,cap,cur,rfl,e2,e3,e4⟩⟩:=h
 ·exact⟨h1,Or.inl h2⟩
 ·exact⟨h1,Or.inr ⟨g,cap,cur,rfl,e2,(he g rfl).trans e3,e4⟩⟩
theorem MH.mlt {W:World}{m f r:Nat}{L:List Mh}{lv:Value}(h:MH W m f r L lv):m<W.heap.size:=World.block_lt_of_cell? W ⟨m,0,none⟩ h.c0
theorem MH.lt {W:World}{m f r:Nat}{L:List Mh}{lv:Value}(h:MH W m f r L lv):∀b,MFoot m L lv b→b<W.heap.size∧m≤b:=by
 rintro b (rfl|e|⟨x,hx,e⟩)
 ·exact⟨h.mlt,Nat.le_refl _⟩
 ·have:=h.own.lt b e
  omega
 ·have:=(h.looks x hx).lt b e
  omega
theorem MH.stay {W W':World}{m f r:Nat}{L:List Mh}{lv:Value}(h:MH W m f r L lv)(hs:∀b,MFoot m L lv b→W'.heap[b]?=W.heap[b]?):MH W' m f r L lv:=by
 have hm:=hs m (Or.inl rfl)
 refine⟨?_,?_,?_,fun k=>?_,owns_same h.own fun g e=>hs g (Or.inr (Or.inl e)),fun x hx=>owns_same (h.looks x hx) fun g e=>hs g (Or.inr (Or.inr ⟨x,hx,e⟩)),h.apart,h.pair⟩
 ·rw[World.cell?_of_block (w:=W) (w':=W') (a:=⟨m,0,none⟩) hm];exact h.c0
 ·rw[World.cell?_of_block (w:=W) (w':=W') (a:=⟨m,1,none⟩) hm];exact h.c1
 ·rw[World.cell?_of_block (w:=W) (w':=W') (a:=⟨m,2,none⟩) hm];exact h.c2
 ·rw[World.frozen?_of_block (w:=W) (w':=W') (a:=⟨m,k,none⟩) hm];exact h.fz k
theorem MH.later {W W':World}{m f r:Nat}{L:List Mh}{lv:Value}(h:MH W m f r L lv)(hb:Below W.heap.size W W'):MH W' m f r L lv:=h.stay fun b hf=>hb.block b (h.lt b hf).1
theorem row_of_owns3 {w:World}{base:Nat}{v:Value}{e:TypeId}{L:List Mh}(h:w.ownsRow base e 3 v L.length (flatH L))(h0:0<L.length):∃g cap,v=.slice (some ⟨g,0,none⟩) L.length cap∧base≤g∧g<w.heap.size∧L.length≤cap∧(∀i (h:i<L.length),w.cell? ⟨g,i*3,none⟩=some (.string L[i].name)∧w.cell? ⟨g,i*3+1,none⟩=some (.bool L[i].up)∧w.cell? ⟨g,i*3+2,none⟩=some L[i].val)∧∀k,w.frozen? ⟨g,k,none⟩=false:=by
 obtain⟨hl,⟨rfl,h'⟩|⟨g,cap,cur,rfl,hbase,hb,hn,hm,hsz,ht⟩⟩:=h
 ·omega
 ·have hlt:g<w.heap.size:=(Array.getElem?_eq_some_iff.1 hb).1
  refine⟨g,cap,rfl,hbase,hlt,hn,fun i hi=>?_,fun k=>by simp[World.frozen?,hb]⟩
  obtain⟨h1,h2,h3⟩:=flatH_get L i hi
  rw[←ht] at h1 h2 h3
  rw[List.getElem?_take_of_lt (by omega)] at h1 h2 h3
  simp only[World.cell?,hb]
  exact⟨by simpa using h1,by simpa using h2,by simpa using h3⟩
def fi (l:List Lh.Hh)(s:ByteArray):Int:=if Lh.hix l s<l.length then ((Lh.hix l s:Nat):Int) else -1
theorem fi_at {l:List Lh.Hh}{s:ByteArray}{k:Nat}(hk:k<l.length)(hp:∀j (h:j<l.length),j<k→(l[j]).1≠s)(he:(l[k]).1=s):Lh.hix l s=k:=by
 have h1:Lh.hix l s<l.length:=Lh.hix_lt.2 ⟨_,List.getElem_mem hk,he⟩
 rcases Nat.lt_trichotomy (Lh.hix l s) k with h|h|h
 ·exact absurd (Lh.hix_get h1) (hp _ h1 h)
 ·exact h
 ·exact absurd he (Lh.hix_first hk h)
theorem find_core (m g cap:Nat)(L:List Mh)(s:ByteArray)(W:World)(hl:L.length≤12)(c2:W.cell? ⟨m,2,none⟩=some (.slice (some ⟨g,0,none⟩) L.length cap))(hc:∀i (h:i<L.length),W.cell? ⟨g,i*3,none⟩=some (.string L[i].name)) :
  Calls Tryz.prog 78 #[.pointer (some ⟨m,0,none⟩),.string s] W fun e w'=>e=.returned (.int .i64 (fi (hst L) s))∧w'=W:=by
 have HC:Hid (∀i (h:i<L.length),W.cell? ⟨g,i*3,none⟩=some (.string L[i].name)):=hc
 clear hc
 go_enter Tryz.func78,Tryz.ntmps78
 go_wp2_with fail
 go_loop [5] (fun t=>∃k:Nat,k≤L.length∧t=.int .i64 (k:Nat)∧∀j (h:j<(hst L).length),j<k→((hst L)[j]).1≠s) (fun t=>L.length - (intOf t).toNat)
 case atStart=>exact⟨0,Nat.zero_le _,rfl,fun j _ h=>absurd h (by omega)⟩
 case round =>
  obtain⟨k,hk,rfl,hp⟩:=hrel
  have HP:Hid (∀j (h:j<(hst L).length),j<k→((hst L)[j]).1≠s):=hp
  clear hp
  by_cases hlt:k<L.length
  ·have cx:=HC.out k hlt
   have hki:(k:Int)<(L.length:Int):=by omega
   have hkh:k<(hst L).length:=by rw[hst_length];exact hlt
   have hnm:((hst L)[k]).1=(L[k]).name:=by rw[hst_get];rfl
   by_cases he:(L[k]).name=s
   ·have HF:Hid (fi (hst L) s=(k:Nat)):=by
     have h1:=fi_at hkh HP.out (hnm.trans he)
     show fi (hst L) s=(k:Nat)
     unfold fi
     rw[h1,if_pos hkh]
    have hq:=bytes_same he
    clear he hnm
    generalize (L[k]).name=t at *
    go_wp2
    go_ret
    exact⟨by rw[HF.out];rfl,rfl⟩
   ·have HPN:Hid (∀j (h:j<(hst L).length),j<k+1→((hst L)[j]).1≠s):=fun j h hj=>by
     by_cases e:j=k
     ·subst e
      rw[hnm]
      exact he
     ·exact HP.out j h (by omega)
    have hq:=bytes_parts he
    clear he hnm
    generalize (L[k]).name=t at *
    go_wp2
    go_round
    case rel=>exact⟨k+1,by omega,by go_num,HPN.out⟩
    case measure=>simp[intOf];omega
  ·have hki:decide ((k:Int)<(L.length:Int))=false:=by simp;omega
   have HF:Hid (fi (hst L) s = -1):=by
    show fi (hst L) s = -1
    unfold fi
    rw[if_neg]
    intro h
    exact HP.out _ h (by rw[hst_length] at h;omega) (Lh.hix_get h)
   go_wp2
   go_ret
   exact⟨by rw[HF.out];rfl,rfl⟩
end Go.Proofs.YtfhmfjcpggddkaaGreatDoor
