/- What is carried over, as lists of bytes: cutting, numbers, sums. -/
import Derived.Lib.AtoiAll
import Derived.Lib.ItoaNum
import Derived.Lib.SplitLaws
import Derived.Lib.Split
import Derived.Lib.Join
import Derived.Lib.Repeat
import Derived.Lib.Strings
import Derived.Test.YtfhmfjcpggddkaaGreatDoorM0
import Derived.Deep.QuietTactic
import Derived.BigQuiet
import Derived.Test.YtfhmfjcpggddkaaGreatDoorProg
import Derived.WalkKit
import Derived.WalkLawsBesides
import Derived.WalkSpells
import Derived.Laws.AppendOwnNone
import Derived.Laws.CopyOwn
namespace Go.Proofs.YtfhmfjcpggddkaaGreatDoor
namespace Lh
def cutL (y:UInt8):List UInt8→List (List UInt8)
 | []=>[[]]
 | c :: cs=>if c=y then [] :: cutL y cs else match cutL y cs with
  | []=>[[c]]
  | w :: ws=>(c :: w) :: ws
def joinL (y:UInt8):List (List UInt8)→List UInt8
 | []=>[]
 | [w]=>w
 | w :: v :: ws=>w++y :: joinL y (v :: ws)
theorem cutL_cons (y c:UInt8)(cs:List UInt8):cutL y (c :: cs)=if c=y then [] :: cutL y cs else match cutL y cs with
  | []=>[[c]]
  | w :: ws=>(c :: w) :: ws:=rfl
theorem cutL_ne (y:UInt8):∀l,cutL y l≠[]
 | []=>by simp[cutL]
 | c :: cs=>by
  unfold cutL
  split
  ·simp
  ·split<;>simp
theorem cutL_some (y:UInt8)(l:List UInt8):∃w ws,cutL y l=w :: ws:=by
 cases h:cutL y l with
 | nil=>exact absurd h (cutL_ne y l)
 | cons w ws=>exact⟨w,ws,rfl⟩
theorem cut_no (y:UInt8):∀l w,w∈cutL y l→y∉w
 | [],w,h=>by
  simp[cutL] at h
  subst h
  simp
 | c :: cs,w,h=>by
  have ih:=cut_no y cs
  obtain⟨v,vs,e⟩:=cutL_some y cs
  unfold cutL at h
  rw[e] at h ih
  split at h
  ·rcases List.mem_cons.1 h with rfl|h
   ·simp
   ·exact ih w h
  ·rename_i hc
   rcases List.mem_cons.1 h with rfl|h
   ·have:=ih v (by simp)
    simp only[List.mem_cons,not_or]
    exact⟨fun e=>hc e.symm,this⟩
   ·exact ih w (by simp[h])
theorem cutL_word {y:UInt8}:∀ {w:List UInt8},y∉w→cutL y w=[w]
 | [],_=>rfl
 | c :: w,h=>by
  simp only[List.mem_cons,not_or] at h
  have ih:=cutL_word h.2
  unfold cutL
  rw[ih,if_neg (fun e=>h.1 e.symm)]
theorem cutL_app {y:UInt8}:∀ {w:List UInt8} (l:List UInt8),y∉w→cutL y (w++y :: l)=w :: cutL y l
 | [],l,_=>by
  show cutL y (y :: l)=_
  rw[cutL_cons,if_pos rfl]
 | c :: w,l,h=>by
  simp only[List.mem_cons,not_or] at h
  have ih:=cutL_app l h.2
  show cutL y (c :: (w++y :: l))=_
  rw[cutL_cons,ih,if_neg (fun e=>h.1 e.symm)]
theorem join_cut {y:UInt8}:∀ {ws:List (List UInt8)},ws≠[]→(∀w∈ws,y∉w)→cutL y (joinL y ws)=ws
 | [w],_,h=>cutL_word (h w (by simp))
 | w :: v :: ws,_,h=>by
  show cutL y (w++y :: joinL y (v :: ws))=_
  rw[cutL_app _ (h w (by simp)),join_cut (by simp) fun u hu=>h u (by simp[hu])]
def digU (d:Nat):UInt8:=UInt8.ofNat (48+d)
def decL (n:Nat):List UInt8:=if _h:n<10 then [digU n] else decL (n / 10)++[digU (n % 10)]
 termination_by n
 decreasing_by omega
def isDg (c:UInt8):Bool:=decide (48≤c.toNat) && decide (c.toNat≤57)
def valL (l:List UInt8):Nat:=l.foldl (fun n c=>10*n+(c.toNat - 48)) 0
def numL (l:List UInt8):Option Nat:=if l=[]∨14<l.length∨(1<l.length∧l.head?=some 48)∨l.all isDg=false then none else some (valL l)
theorem digU_nat {d:Nat}(h:d<10):(digU d).toNat=48+d:=by
 unfold digU
 rw[UInt8.toNat_ofNat']
 omega
theorem digU_is {d:Nat}(h:d<10):isDg (digU d)=true:=by
 unfold isDg
 rw[digU_nat h]
 simp
 omega
theorem digU_inv {c:UInt8}(h:isDg c=true):digU (c.toNat - 48)=c:=by
 unfold isDg at h
 simp at h
 unfold digU
 have:48+(c.toNat - 48)=c.toNat:=by omega
 rw[this]
 simp
theorem valL_snoc (l:List UInt8)(c:UInt8):valL (l++[c])=10*valL l+(c.toNat - 48):=by simp[valL,List.foldl_append]
theorem decL_small {n:Nat}(h:n<10):decL n=[digU n]:=by
 rw[decL,dif_pos h]
theorem decL_big {n:Nat}(h:¬n<10):decL n=decL (n / 10)++[digU (n % 10)]:=by
 rw[decL,dif_neg h]
theorem decL_ne (n:Nat):decL n≠[]:=by
 by_cases h:n<10
 ·rw[decL_small h];simp
 ·rw[decL_big h];simp
theorem decL_val (n:Nat):valL (decL n)=n:=by
 induction n using Nat.strongRecOn with
 | _ n ih =>
  by_cases h:n<10
  ·rw[decL_small h]
   simp[valL,digU_nat h]
  ·rw[decL_big h,valL_snoc,ih (n / 10) (by omega),digU_nat (Nat.mod_lt _ (by decide))]
   omega
theorem decL_dig (n:Nat):(decL n).all isDg=true:=by
 induction n using Nat.strongRecOn with
 | _ n ih =>
  by_cases h:n<10
  ·rw[decL_small h]
   simp[digU_is h]
  ·rw[decL_big h,List.all_append,ih (n / 10) (by omega)]
   simp[digU_is (Nat.mod_lt n (show 0<10 by decide))]
theorem decL_head (n:Nat)(h:0<n):(decL n).head?≠some 48:=by
 induction n using Nat.strongRecOn with
 | _ n ih =>
  by_cases h9:n<10
  ·rw[decL_small h9]
   intro e
   have e2:digU n=48:=by simpa using e
   have:=digU_nat h9
   rw[e2] at this
   have h48:(48:UInt8).toNat=48:=rfl
   omega
  ·rw[decL_big h9]
   have:=ih (n / 10) (by omega) (by omega)
   intro e
   apply this
   rw[List.head?_append] at e
   cases hd:(decL (n / 10)).head? with
   | none=>exact absurd (List.head?_eq_none_iff.1 hd) (decL_ne _)
   | some c=>rw[hd] at e;exact e
theorem decL_len {n k:Nat}(hk:0<k)(h:n<10 ^ k):(decL n).length≤k:=by
 induction k generalizing n with
 | zero=>omega
 | succ k ih =>
  by_cases h9:n<10
  ·rw[decL_small h9];simp
  ·rw[decL_big h9,List.length_append]
   have hk0:0<k:=by
    rcases Nat.eq_zero_or_pos k with rfl|h0
    ·simp at h;omega
    ·exact h0
   have h2:n / 10<10 ^ k:=by
    rw[Nat.pow_succ] at h
    omega
   have:=ih hk0 h2
   simp
   omega
theorem numL_dec {n:Nat}(h:n<10 ^ 14):numL (decL n)=some n:=by
 unfold numL
 rw[if_neg,decL_val]
 rintro (e|e|⟨e1,e2⟩|e)
 ·exact decL_ne n e
 ·have:=decL_len (by decide) h
  omega
 ·rcases Nat.eq_zero_or_pos n with rfl|h0
  ·rw[decL_small (by decide)] at e1
   simp at e1
  ·exact decL_head n h0 e2
 ·rw[decL_dig] at e
  cases e
theorem dec_valL:∀ {l:List UInt8},l≠[]→l.all isDg=true→(1<l.length→l.head?≠some 48)→decL (valL l)=l:=by
 intro l
 induction hn:l.length generalizing l with
 | zero=>intro h;exact absurd (List.eq_nil_of_length_eq_zero hn) h
 | succ n ih =>
  intro hne hd hh
  obtain⟨m,c,rfl⟩:∃m c,l=m++[c]:=⟨l.dropLast,l.getLast hne,(List.dropLast_concat_getLast hne).symm⟩
  rw[List.all_append] at hd
  simp at hd
  have hm:m.all isDg=true:=by simpa using hd.1
  have hcd:=hd.2
  have hcb:c.toNat - 48<10:=by
   unfold isDg at hcd
   simp at hcd
   omega
  rw[valL_snoc]
  by_cases hm0:m=[]
  ·subst hm0
   simp only[valL,List.foldl_nil,List.nil_append]
   rw[decL_small (by omega)]
   simp[digU_inv hcd]
  ·have hlm:m.length=n:=by simp at hn;exact hn
   have hmp:0<m.length:=List.length_pos_iff.2 hm0
   have hhd:m.head?≠some 48:=by
    intro e
    refine hh (by simp;omega) ?_
    rw[List.head?_append,e]
    rfl
   have hv:=ih hlm hm0 hm (fun _=>hhd)
   have hpos:0<valL m:=by
    rcases Nat.eq_zero_or_pos (valL m) with e|e
    ·rw[e,decL_small (by decide)] at hv
     rw[←hv] at hhd
     exact absurd rfl hhd
    ·exact e
   rw[decL_big (by omega),show (10*valL m+(c.toNat - 48)) / 10=valL m by omega,show (10*valL m+(c.toNat - 48)) % 10=c.toNat - 48 by omega,hv,digU_inv hcd]
theorem numL_inv {l:List UInt8}{n:Nat}(h:numL l=some n):decL n=l:=by
 unfold numL at h
 split at h
 ·cases h
 ·rename_i hc
  simp only[not_or] at hc
  obtain rfl:=Option.some.inj h
  refine dec_valL hc.1 ?_ fun h1 e=>hc.2.2.1 ⟨h1,e⟩
  cases e:l.all isDg with
  | true=>rfl
  | false=>exact absurd e hc.2.2.2
end Lh
end Go.Proofs.YtfhmfjcpggddkaaGreatDoor

/- Numbers in decimal digits: the library's own reading and writing, against the document's. -/
namespace Go.Proofs.YtfhmfjcpggddkaaGreatDoor
namespace Lh
theorem decL_lib (n:Nat):Lib.decDigits n=decL n:=by
 induction n using Nat.strongRecOn with
 | ind n ih =>
  rw[Lib.decDigits]
  by_cases h:n<10
  ·rw[dif_pos h,decL_small h]
   rfl
  ·rw[dif_neg h,decL_big h,ih (n / 10) (by omega)]
   rfl
theorem itoa_dec (n:Nat):Lib.itoa (n:Int)=decL n:=by
 unfold Lib.itoa
 rw[if_neg (by omega),decL_lib]
 rfl
theorem valL_fold (l:List UInt8)(z:Nat):l.foldl (fun n c=>10*n+(c.toNat - 48)) z=z*10 ^ l.length+valL l:=by
 induction l generalizing z with
 | nil=>simp[valL]
 | cons c l ih =>
  show l.foldl _ (10*z+(c.toNat - 48))=z*10 ^ (l.length+1)+l.foldl _ (10*0+(c.toNat - 48))
  rw[ih,ih (10*0+(c.toNat - 48)),Nat.pow_succ]
  simp only[Nat.mul_zero,Nat.zero_add,Nat.add_mul]
  have:10*z*10 ^ l.length=z*(10 ^ l.length*10):=by
   rw[Nat.mul_comm 10 z,Nat.mul_assoc,Nat.mul_comm 10]
  omega
theorem valL_lt10 {l:List UInt8}(h:l.all isDg=true):valL l<10 ^ l.length:=by
 induction l with
 | nil=>simp[valL]
 | cons c l ih =>
  simp only[List.all_cons,Bool.and_eq_true] at h
  have h1:=ih h.2
  have h2:c.toNat≤57:=by have:=h.1;simp only[isDg,Bool.and_eq_true,decide_eq_true_eq] at this;omega
  show l.foldl (fun n c=>10*n+(c.toNat - 48)) (10*0+(c.toNat - 48))<10 ^ (l.length+1)
  rw[valL_fold,Nat.pow_succ]
  have h3:(10*0+(c.toNat - 48))*10 ^ l.length≤9*10 ^ l.length:=Nat.mul_le_mul_right _ (by omega)
  omega
theorem parse_digits:∀(l:List UInt8) (z:Nat),l.all isDg=true→(z+1)*10 ^ l.length≤10 ^ 18→Lib.parseUint10 z l=.ok (l.foldl (fun n c=>10*n+(c.toNat - 48)) z)
 | [],z,_,_=>rfl
 | c :: l,z,h,hz=>by
  simp only[List.all_cons,Bool.and_eq_true] at h
  have hc:=h.1
  simp only[isDg,Bool.and_eq_true,decide_eq_true_eq] at hc
  have hp:0<10 ^ l.length:=Nat.pow_pos (by decide)
  have e1:(z+1)*10 ^ (l.length+1)=((z+1)*10)*10 ^ l.length:=by rw[Nat.pow_succ,Nat.mul_assoc,Nat.mul_comm 10]
  rw[List.length_cons,e1] at hz
  have h2:(z*10+(c.toNat - 48)+1)*10 ^ l.length≤10 ^ 18:=Nat.le_trans (Nat.mul_le_mul_right _ (by omega)) hz
  have h3:(z+1)*10≤10 ^ 18:=Nat.le_trans (Nat.le_mul_of_pos_right _ hp) hz
  rw[Lib.parseUint10,if_pos hc,if_neg (by omega),if_neg (by omega),parse_digits l _ h.2 h2]
  show _=Lib.NumEnd.ok (l.foldl _ (10*z+(c.toNat - 48)))
  rw[Nat.mul_comm z 10]
theorem dig_head {c:UInt8}(h:isDg c=true):c.toNat≠43∧c.toNat≠45:=by
 simp only[isDg,Bool.and_eq_true,decide_eq_true_eq] at h
 omega
theorem atoi_num {l:List UInt8}{n:Nat}(h:numL l=some n):Lib.atoiAll l=.ok (n:Int)∧l.length≤14∧Lib.itoa (n:Int)=l∧n<10 ^ 14:=by
 have hi:=numL_inv h
 unfold numL at h
 split at h
 ·cases h
 ·rename_i hn
  simp only[not_or,Nat.not_lt,Bool.not_eq_false] at hn
  obtain⟨h1,h2,_,h4⟩:=hn
  cases h
  have hlt:=valL_lt10 h4
  have h14:valL l<10 ^ 14:=Nat.lt_of_lt_of_le hlt (Nat.pow_le_pow_right (by decide) h2)
  refine⟨?_,h2,by rw[itoa_dec];exact hi,h14⟩
  match l,h1,h4 with
  | c :: r,_,h4 =>
   have hc:isDg c=true:=by simp only[List.all_cons,Bool.and_eq_true] at h4;exact h4.1
   obtain⟨d1,d2⟩:=dig_head hc
   have hp:=parse_digits (c :: r) 0 h4 (by
    have:10 ^ (c :: r).length≤10 ^ 14:=Nat.pow_le_pow_right (by decide) h2
    omega)
   have hv:(c :: r).foldl (fun n c=>10*n+(c.toNat - 48)) 0=valL (c :: r):=rfl
   rw[hv] at hp
   generalize valL (c :: r)=v at *
   unfold Lib.atoiAll
   simp only[d1,d2,or_self,if_false,Lib.parseMag,List.cons_ne_nil,hp,not_false_eq_true,true_and,false_and]
   rw[if_neg (by omega)]
theorem atoi_none {l:List UInt8}(h:numL l=none){v:Int}(hv:0≤v)(h14:l.length≤14):Lib.itoa v≠l:=by
 intro e
 obtain⟨n,rfl⟩:=Int.eq_ofNat_of_zero_le hv
 rw[itoa_dec] at e
 have hn:n<10 ^ 14:=by
  have h1:=valL_lt10 (decL_dig n)
  rw[decL_val] at h1
  exact Nat.lt_of_lt_of_le h1 (Nat.pow_le_pow_right (by decide) (by rw[e];exact h14))
 rw[←e,numL_dec hn] at h
 cases h
end Lh
end Go.Proofs.YtfhmfjcpggddkaaGreatDoor

/- What is carried over, as lists of bytes: hex digits and the sum. -/
namespace Go.Proofs.YtfhmfjcpggddkaaGreatDoor
namespace Lh
def hxU (d:Nat):UInt8:=UInt8.ofNat (if d<10 then 48+d else 87+d)
def hexL:Nat→Nat→List UInt8
 | 0,_=>[]
 | k+1,n=>hexL k (n / 16)++[hxU (n % 16)]
theorem hexL_len:∀k n,(hexL k n).length=k
 | 0,_=>rfl
 | k+1,n=>by
  show (hexL k (n / 16)++[hxU (n % 16)]).length=_
  rw[List.length_append,hexL_len k]
  rfl
def crcBit (b c k:Nat):Nat:=if (c ^^^ (b >>> k)) % 2=1 then (c / 2) ^^^ 3988292384 else c / 2
def crcByte (c:Nat)(b:UInt8):Nat:=(List.range 8).foldl (crcBit b.toNat) c
def crcRaw (l:List UInt8):Nat:=l.foldl crcByte 4294967295
def crcL (l:List UInt8):Nat:=crcRaw l ^^^ 4294967295
theorem crcBit_lt {b c k:Nat}(h:c<2 ^ 32):crcBit b c k<2 ^ 32:=by
 unfold crcBit
 split
 ·exact Nat.xor_lt_two_pow (by omega) (by decide)
 ·omega
theorem crcK_lt {b:Nat}:∀(ks:List Nat) {c:Nat},c<2 ^ 32→ks.foldl (crcBit b) c<2 ^ 32
 | [],_,h=>h
 | _ :: ks,_,h=>crcK_lt ks (crcBit_lt h)
theorem crcByte_lt {c:Nat}(b:UInt8)(h:c<2 ^ 32):crcByte c b<2 ^ 32:=crcK_lt _ h
theorem crcFold_lt:∀(l:List UInt8) {c:Nat},c<2 ^ 32→l.foldl crcByte c<2 ^ 32
 | [],_,h=>h
 | b :: l,_,h=>crcFold_lt l (crcByte_lt b h)
theorem crcL_lt (l:List UInt8):crcL l<2 ^ 32:=Nat.xor_lt_two_pow (crcFold_lt l (by decide)) (by decide)
theorem bit_xor (b c k:Nat):crcBit 0 (c ^^^ (b >>> k)) k=crcBit b c k ^^^ (b >>> (k+1)):=by
 have hd:(c ^^^ (b >>> k)) / 2=(c / 2) ^^^ (b >>> (k+1)):=by
  have h1:(b >>> k) / 2=b >>> (k+1):=by rw[Nat.shiftRight_succ]
  rw[←h1]
  exact Nat.xor_div_two
 unfold crcBit
 simp only[Nat.zero_shiftRight,Nat.xor_zero]
 rw[hd]
 split
 ·rw[Nat.xor_assoc,Nat.xor_assoc,Nat.xor_comm (b >>> (k+1))]
 ·rfl
theorem fold_xor (b:Nat):∀n c,(List.range n).foldl (crcBit 0) (c ^^^ b)=(List.range n).foldl (crcBit b) c ^^^ (b >>> n)
 | 0,c=>by simp
 | n+1,c=>by
  rw[List.range_succ,List.foldl_append,List.foldl_append,fold_xor b n c]
  exact bit_xor b _ n
theorem crcByte_xor (c:Nat)(b:UInt8):crcByte c b=(List.range 8).foldl (crcBit 0) (c ^^^ b.toNat):=by
 rw[fold_xor b.toNat 8 c]
 have:b.toNat >>> 8=0:=by
  rw[Nat.shiftRight_eq_div_pow]
  have:=b.toNat_lt
  omega
 rw[this,Nat.xor_zero]
 rfl
theorem crcX_lt {c:Nat}(h:c<2 ^ 32)(b:UInt8):c ^^^ b.toNat<2 ^ 32:=Nat.xor_lt_two_pow h (by have:=b.toNat_lt;omega)
end Lh
end Go.Proofs.YtfhmfjcpggddkaaGreatDoor

/- Flows, as lists by key: a key, its host, and the tick at which it is gone. -/
namespace Go.Proofs.YtfhmfjcpggddkaaGreatDoor
namespace Lh
abbrev Fl:=Nat × ByteArray × Int
def fix (L:List Fl)(k:Nat):Nat:=L.findIdx fun x=>decide (x.1=k)
def flay (x:Fl)(L:List Fl):List Fl:=(L.takeWhile fun y=>decide (y.1<x.1))++x :: L.dropWhile fun y=>decide (y.1<x.1)
def fleast (L:List Fl):Nat:=(List.range L.length).foldl (fun b i=>if ((L.map fun x=>x.2.2).getD i 0)<((L.map fun x=>x.2.2).getD b 0) then i else b) 0
def frest (L:List Fl)(k:Nat):List Fl:=if fix L k<L.length then L.eraseIdx (fix L k) else if 200≤L.length then L.eraseIdx (fleast L) else L
def fput (time:Nat)(L:List Fl)(k:Nat)(h:ByteArray)(now:Int):List Fl:=flay (k,h,now+time) (frest L k)
def fdrop (L:List Fl)(h:ByteArray):List Fl:=L.filter fun x=>!decide (x.2.1=h)
structure FlOk (L:List Fl):Prop where
 rise:L.Pairwise fun x y=>x.1<y.1
 len:L.length≤200
 key:∀x∈L,x.1<18446744073709551616
 size:∀x∈L,x.2.1.size≤300
 lo:∀x∈L,0≤x.2.2
 hi:∀x∈L,x.2.2≤2000000000000
theorem flay_mem {x y:Fl}{L:List Fl}:y∈flay x L↔y=x∨y∈L:=by
 unfold flay
 rw[List.mem_append,List.mem_cons]
 constructor
 ·rintro (h|h|h)
  ·exact Or.inr ((List.takeWhile_prefix _).sublist.mem h)
  ·exact Or.inl h
  ·exact Or.inr ((List.dropWhile_suffix _).sublist.mem h)
 ·rintro (h|h)
  ·exact Or.inr (Or.inl h)
  ·rw[←List.takeWhile_append_dropWhile (p:=fun y:Fl=>decide (y.1<x.1)) (l:=L)] at h
   rcases List.mem_append.1 h with h|h
   ·exact Or.inl h
   ·exact Or.inr (Or.inr h)
theorem flay_len (x:Fl)(L:List Fl):(flay x L).length=L.length+1:=by
 unfold flay
 rw[List.length_append,List.length_cons]
 have h:(L.takeWhile (fun y:Fl=>decide (y.1<x.1))++L.dropWhile (fun y:Fl=>decide (y.1<x.1))).length=L.length:=by rw[List.takeWhile_append_dropWhile]
 rw[List.length_append] at h
 omega
theorem takeWhile_lt {k:Nat}:∀ {L:List Fl} {y:Fl},y∈L.takeWhile (fun y=>decide (y.1<k))→y.1<k
 | a :: L,y,h=>by
  rw[List.takeWhile_cons] at h
  split at h
  ·rename_i ha
   rcases List.mem_cons.1 h with rfl|h
   ·simpa using ha
   ·exact takeWhile_lt h
  ·cases h
theorem dropWhile_ge {k:Nat}:∀ {L:List Fl} {y:Fl},L.Pairwise (fun x y=>x.1<y.1)→y∈L.dropWhile (fun y=>decide (y.1<k))→k≤y.1
 | a :: L,y,hp,h=>by
  rw[List.dropWhile_cons] at h
  rw[List.pairwise_cons] at hp
  split at h
  ·exact dropWhile_ge hp.2 h
  ·rename_i ha
   have ha':k≤a.1:=by simpa using ha
   rcases List.mem_cons.1 h with rfl|h
   ·exact ha'
   ·have:=hp.1 y h
    omega
theorem flay_rise {x:Fl}{L:List Fl}(h:L.Pairwise fun x y=>x.1<y.1)(hx:∀y∈L,y.1≠x.1):(flay x L).Pairwise fun x y=>x.1<y.1:=by
 unfold flay
 rw[List.pairwise_append]
 refine⟨h.sublist (List.takeWhile_prefix _).sublist,?_,fun a ha b hb=>?_⟩
 ·rw[List.pairwise_cons]
  refine⟨fun y hy=>?_,h.sublist (List.dropWhile_suffix _).sublist⟩
  have h1:=dropWhile_ge h hy
  have h2:=hx y ((List.dropWhile_suffix _).sublist.mem hy)
  show x.1<y.1
  omega
 ·have h1:=takeWhile_lt ha
  rcases List.mem_cons.1 hb with rfl|hb
  ·exact h1
  ·have h2:=dropWhile_ge h hb
   omega
theorem fix_lt {L:List Fl}{k:Nat}:fix L k<L.length↔∃x∈L,x.1=k:=by
 unfold fix
 rw[List.findIdx_lt_length]
 simp
theorem fix_get {L:List Fl}{k:Nat}(h:fix L k<L.length):(L[fix L k]).1=k:=by
 have:=List.findIdx_getElem (xs:=L) (p:=fun x:Fl=>decide (x.1=k)) (w:=h)
 exact of_decide_eq_true this
theorem erase_key {L:List Fl}(hp:L.Pairwise fun x y=>x.1<y.1){i:Nat}(hi:i<L.length):∀y∈L.eraseIdx i,y.1≠(L[i]).1:=by
 intro y hy
 rw[List.eraseIdx_eq_take_drop_succ] at hy
 rcases List.mem_append.1 hy with h|h
 ·rw[List.mem_take_iff_getElem] at h
  obtain⟨j,hj,rfl⟩:=h
  have:=List.pairwise_iff_getElem.1 hp j i (by omega) hi (by omega)
  omega
 ·rw[List.mem_drop_iff_getElem] at h
  obtain⟨j,hj,rfl⟩:=h
  have:=List.pairwise_iff_getElem.1 hp i (i+1+j) hi (by omega) (by omega)
  omega
theorem frest_sub (L:List Fl)(k:Nat):(frest L k).Sublist L:=by
 unfold frest
 split
 ·exact List.eraseIdx_sublist _ _
 ·split
  ·exact List.eraseIdx_sublist _ _
  ·exact List.Sublist.refl _
theorem frest_key {L:List Fl}(hp:L.Pairwise fun x y=>x.1<y.1)(k:Nat):∀y∈frest L k,y.1≠k:=by
 intro y hy
 unfold frest at hy
 split at hy
 ·rename_i h
  have:=erase_key hp h y hy
  rwa [fix_get h] at this
 ·rename_i h
  have hy2:y∈L:=by
   split at hy
   ·exact (List.eraseIdx_sublist _ _).mem hy
   ·exact hy
  intro e
  exact h (fix_lt.2 ⟨y,hy2,e⟩)
theorem foldl_lt {n:Nat}(f:Nat→Nat→Nat)(hf:∀b i,f b i=b∨f b i=i):∀(l:List Nat) (b:Nat),b<n→(∀i∈l,i<n)→l.foldl f b<n
 | [],b,hb,_=>hb
 | i :: l,b,hb,h=>by
  rw[List.foldl_cons]
  refine foldl_lt f hf l _ ?_ fun j hj=>h j (by simp[hj])
  rcases hf b i with e|e
  ·rw[e];exact hb
  ·rw[e];exact h i (by simp)
theorem fleast_lt {L:List Fl}(h:0<L.length):fleast L<L.length:=by
 unfold fleast
 refine foldl_lt _ (fun b i=>?_) _ _ h fun i hi=>List.mem_range.1 hi
 split
 ·exact Or.inr rfl
 ·exact Or.inl rfl
theorem frest_len {L:List Fl}(h:L.length≤200)(k:Nat):(frest L k).length<200:=by
 unfold frest
 split
 ·rename_i hx
  rw[List.length_eraseIdx_of_lt hx]
  omega
 ·split
  ·rename_i h2
   rw[List.length_eraseIdx_of_lt (fleast_lt (by omega))]
   omega
  ·omega
theorem FlOk.put {L:List Fl}(h:FlOk L){time k:Nat}{s:ByteArray}{now:Int}(hk:k<18446744073709551616)(hs:s.size≤300)(hn:0≤now)(hn2:now≤1099511627776)(ht:time≤1000):FlOk (fput time L k s now):=by
 have hsub:=frest_sub L k
 unfold fput
 refine⟨flay_rise (h.rise.sublist hsub) (frest_key h.rise k),?_,fun x hx=>?_,fun x hx=>?_,fun x hx=>?_,fun x hx=>?_⟩
 ·rw[flay_len]
  have:=frest_len h.len k
  omega
 all_goals
  rcases flay_mem.1 hx with rfl|hx
 ·exact hk
 ·exact h.key x (hsub.mem hx)
 ·exact hs
 ·exact h.size x (hsub.mem hx)
 ·show 0≤now+(time:Int)
  omega
 ·exact h.lo x (hsub.mem hx)
 ·show now+(time:Int)≤2000000000000
  omega
 ·exact h.hi x (hsub.mem hx)
theorem FlOk.sub {L M:List Fl}(h:FlOk L)(hs:M.Sublist L):FlOk M :=
 ⟨h.rise.sublist hs,Nat.le_trans hs.length_le h.len,fun x hx=>h.key x (hs.mem hx),fun x hx=>h.size x (hs.mem hx),fun x hx=>h.lo x (hs.mem hx),fun x hx=>h.hi x (hs.mem hx)⟩
theorem FlOk.nil:FlOk []:=by refine⟨List.Pairwise.nil,by simp,?_,?_,?_,?_⟩<;>simp
end Lh
end Go.Proofs.YtfhmfjcpggddkaaGreatDoor

/- What is carried over, as lists of bytes: the text of flows, and what a text is. -/
namespace Go.Proofs.YtfhmfjcpggddkaaGreatDoor
namespace Lh
def flowsW:List UInt8:=[102,108,111,119,115]
def sumW:List UInt8:=[115,117,109]
def bt (l:List UInt8):ByteArray:=⟨l.toArray⟩
theorem bt_eta (b:ByteArray):bt b.data.toList=b:=rfl
def lineF (x:Fl):List UInt8:=joinL 32 [hexL 16 x.1,x.2.1.data.toList,decL x.2.2.toNat]
def headL (e n:Nat):List UInt8:=joinL 32 [flowsW,decL e,decL n]
def bodyL (e:Nat)(l:List Fl):List UInt8:=joinL 10 (headL e l.length :: l.map lineF)++[10]
def sumL (s:List UInt8):List UInt8:=joinL 32 [sumW,hexL 8 (crcL s)]
def textL (e:Nat)(l:List Fl):List UInt8:=bodyL e l++sumL (bodyL e l)++[10]
end Lh
end Go.Proofs.YtfhmfjcpggddkaaGreatDoor

/- What is carried over: it comes back; what is cut off, and a byte that is turned, are seen. -/
namespace Go.Proofs.YtfhmfjcpggddkaaGreatDoor
namespace Lh
def WordF (l:List Fl):Prop:=∀x∈l,x.1<18446744073709551616∧0≤x.2.2∧x.2.2<100000000000000∧x.2.1.data.toList≠[]∧(32:UInt8)∉x.2.1.data.toList∧(10:UInt8)∉x.2.1.data.toList
end Lh
end Go.Proofs.YtfhmfjcpggddkaaGreatDoor

/- Numbers in digits 0 to f: the library's own reading and writing, against the document's. -/
namespace Go.Proofs.YtfhmfjcpggddkaaGreatDoor
namespace Lh
def hexD (n:Nat):List UInt8:=if _h:n<16 then [hxU n] else hexD (n / 16)++[hxU (n % 16)]
 termination_by n
 decreasing_by omega
theorem hexD_small {n:Nat}(h:n<16):hexD n=[hxU n]:=by
 rw[hexD,dif_pos h]
theorem hexD_big {n:Nat}(h:¬n<16):hexD n=hexD (n / 16)++[hxU (n % 16)]:=by
 rw[hexD,dif_neg h]
theorem hexL_zero:∀k,hexL k 0=List.replicate k 48
 | 0=>rfl
 | k+1=>by
  show hexL k (0 / 16)++[hxU (0 % 16)]=_
  rw[show (0:Nat) / 16=0 by decide,hexL_zero k,List.replicate_succ']
  rfl
theorem hexD_fill:∀(k n:Nat),n<16 ^ (k+1)→(hexD n).length≤k+1∧List.replicate (k+1 - (hexD n).length) 48++hexD n=hexL (k+1) n
 | k,n,h=>by
  by_cases hs:n<16
  ·rw[hexD_small hs]
   refine⟨by simp,?_⟩
   show List.replicate (k+1 - 1) 48++[hxU n]=hexL k (n / 16)++[hxU (n % 16)]
   rw[Nat.div_eq_of_lt hs,Nat.mod_eq_of_lt hs,hexL_zero]
   rfl
  ·match k,h with
   | 0,h=>exact absurd (by simpa using h) hs
   | k+1,h =>
    obtain⟨i1,i2⟩:=hexD_fill k (n / 16) (by
     rw[Nat.pow_succ] at h
     exact Nat.div_lt_of_lt_mul (by rw[Nat.mul_comm];exact h))
    rw[hexD_big hs]
    refine⟨by simp;omega,?_⟩
    show _=hexL (k+1) (n / 16)++[hxU (n % 16)]
    rw[←i2,List.length_append,List.length_singleton,show k+1+1 - ((hexD (n / 16)).length+1)=k+1 - (hexD (n / 16)).length by omega,List.append_assoc]
theorem hexD_pos (n:Nat):0<(hexD n).length:=by
 rw[hexD]
 split<;>simp
def hxA (c:UInt8):Option Nat:=if 48≤c.toNat∧c.toNat≤57 then some (c.toNat - 48) else if 97≤(c ||| 32).toNat∧(c ||| 32).toNat≤102 then some ((c ||| 32).toNat - 87) else none
end Lh
end Go.Proofs.YtfhmfjcpggddkaaGreatDoor

/- strings.Split at one byte, strings.Join of words, strings.Repeat of a zero: as lists. -/
namespace Go.Proofs.YtfhmfjcpggddkaaGreatDoor
namespace Lh
theorem index_eq (y:UInt8)(r:List UInt8):Lib.index (y :: r) [y]=0:=by simp[Lib.index]
theorem index_ne {c y:UInt8}(h:c≠y)(r:List UInt8):Lib.index (c :: r) [y]=if Lib.index r [y] == -1 then -1 else Lib.index r [y]+1:=by
 have:([y]:List UInt8).isPrefixOf (c :: r)=false:=by simp[List.isPrefixOf];exact fun e=>h e.symm
 rw[Lib.index,this]
 rfl
theorem split_cut (y:UInt8):∀s:List UInt8,Lib.splitK [y] 0 (Lib.count s [y]) s=cutL y s
 | []=>by
  rw[Lib.count_one]
  rfl
 | c :: r=>by
  have ih:=split_cut y r
  by_cases h:c=y
  ·subst h
   rw[Lib.count_cons_eq,Nat.add_comm,Lib.splitK,index_eq,if_neg (by decide),cutL_cons,if_pos rfl]
   simp only[Int.toNat_zero,Nat.zero_add,List.take_zero,List.length_singleton,List.drop_succ_cons,List.drop_zero]
   rw[ih]
  ·rw[Lib.count_cons_ne c y r h,cutL_cons,if_neg h]
   cases hk:Lib.count r [y] with
   | zero =>
    rw[hk] at ih
    rw[Lib.splitK] at ih ⊢
    rw[←ih]
   | succ k =>
    rw[hk] at ih
    rw[Lib.splitK] at ih ⊢
    by_cases hi:Lib.index r [y] = -1
    ·rw[Lib.count_miss hi] at hk
     cases hk
    ·have hb:¬(Lib.index r [y] == -1)=true:=by simpa using hi
     have hge:=Lib.index_ge r [y]
     obtain⟨i,hii⟩:∃i:Nat,Lib.index r [y]=i:=⟨(Lib.index r [y]).toNat,by omega⟩
     rw[if_neg hb] at ih
     rw[index_ne h,if_neg hb,if_neg (by rw[hii];simp;omega),←ih,hii]
     simp only[Nat.add_zero,List.length_singleton,Int.toNat_natCast]
     rw[show ((i:Int)+1).toNat=i+1 by omega,List.take_succ_cons,List.drop_succ_cons]
theorem splitB_cut (y:UInt8)(s:List UInt8):Lib.splitB (bt [y]) 0 (Lib.countB (bt s) (bt [y])) (bt s)=(cutL y s).map bt:=by
 have h:=Lib.splitB_data (bt [y]) 0 (Lib.countB (bt s) (bt [y])) (bt s)
 have h2:Lib.splitK (bt [y]).data.toList 0 (Lib.countB (bt s) (bt [y])) (bt s).data.toList=cutL y s:=split_cut y s
 rw[h2] at h
 rw[←h,List.map_map]
 conv=>lhs;rw[←List.map_id (Lib.splitB (bt [y]) 0 (Lib.countB (bt s) (bt [y])) (bt s))]
 exact List.map_congr_left fun b _=>(bt_eta b).symm
theorem count_cut (y:UInt8)(s:List UInt8):Lib.countB (bt s) (bt [y])+1=(cutL y s).length:=by
 have h:=Lib.splitB_all (bt [y]) (Nat.le_refl 1) 0 _ (bt s) rfl
 rw[splitB_cut,List.length_map] at h
 exact h.symm
theorem join_three (a b c:List UInt8):Lib.join [a,b,c] [32]=joinL 32 [a,b,c]:=by simp[Lib.join,List.intercalate,List.intersperse,joinL]
theorem join_two (a b:List UInt8):Lib.join [a,b] [32]=joinL 32 [a,b]:=by simp[Lib.join,List.intercalate,List.intersperse,joinL]
theorem repeat_zero:∀c,Lib.repeatL [48] c=List.replicate c 48
 | 0=>rfl
 | c+1=>by
  rw[Lib.repeatL,repeat_zero c]
  rfl
end Lh
end Go.Proofs.YtfhmfjcpggddkaaGreatDoor

/- Lists of numbers and of texts in memory; the reference's SameInts and SameTexts. -/
namespace Go.Proofs.YtfhmfjcpggddkaaGreatDoor
open Go.RowKit
def Ints (w:World)(v:Value)(xs:List Int):Prop :=
 (xs=[]∧∃p c,v=.slice p 0 c)∨∃b o c,v=.slice (some ⟨b,o,none⟩) xs.length c∧∀k (h:k<xs.length),w.cell? ⟨b,o+k,none⟩=some (.int .i64 xs[k])
theorem Ints.later {w w':World}{v:Value}{xs:List Int}(h:Ints w v xs)(hb:Below w.heap.size w w'):Ints w' v xs:=by
 rcases h with h|⟨b,o,c,rfl,hc⟩
 ·exact Or.inl h
 ·exact Or.inr ⟨b,o,c,rfl,fun k hk=>below_cell hb (hc k hk)⟩
theorem below_drewN {B:Nat}{a w:World}(h:Below B a w)(n:Nat):Below B a (w.drewN n):=⟨h.os,h.tape,h.output,h.size,h.block⟩
theorem take_same {α:Type}{xs ys:List α}{k:Nat}(hp:xs.take k=ys.take k)(h1:k<xs.length)(h2:k<ys.length)(he:xs[k]=ys[k]):xs.take (k+1)=ys.take (k+1):=by
 rw[List.take_succ_eq_append_getElem h1,List.take_succ_eq_append_getElem h2,hp,he]
theorem take_all {α:Type}{xs ys:List α}{k:Nat}(hp:xs.take k=ys.take k)(h1:¬k<xs.length)(hl:xs.length=ys.length):xs=ys:=by
 rwa [List.take_of_length_le (by omega),List.take_of_length_le (by omega)] at hp
theorem get_parts {α:Type}{xs ys:List α}{k:Nat}(h1:k<xs.length)(h2:k<ys.length)(he:xs[k]≠ys[k]):xs≠ys:=by
 intro e;subst e;exact he rfl
theorem ret_bool {a b:Bool}(h:a=b):Ending.returned (.bool a)=.returned (.bool b):=by rw[h]
end Go.Proofs.YtfhmfjcpggddkaaGreatDoor

/- Lists of texts in memory; the reference's SameTexts. -/
namespace Go.Proofs.YtfhmfjcpggddkaaGreatDoor
open Go.RowKit
theorem bytes_same {x y:ByteArray}(h:x=y):(x.toList==y.toList)=true:=by subst h;exact beq_self_eq_true _
theorem bytes_parts {x y:ByteArray}(h:x≠y):(x.toList==y.toList)=false:=by
 rw[beq_eq_false_iff_ne]
 intro e
 rw[ByteArray.toList_eq,ByteArray.toList_eq] at e
 exact h (ByteArray.ext (Array.toList_inj.1 e))
def Strs (w:World)(v:Value)(xs:List ByteArray):Prop :=
 (xs=[]∧∃p c,v=.slice p 0 c)∨∃b o c,v=.slice (some ⟨b,o,none⟩) xs.length c∧xs.length≤c∧∀k (h:k<xs.length),w.cell? ⟨b,o+k,none⟩=some (.string xs[k])
theorem Strs.later {w w':World}{v:Value}{xs:List ByteArray}(h:Strs w v xs)(hb:Below w.heap.size w w'):Strs w' v xs:=by
 rcases h with h|⟨b,o,c,rfl,hcap,hc⟩
 ·exact Or.inl h
 ·exact Or.inr ⟨b,o,c,rfl,hcap,fun k hk=>below_cell hb (hc k hk)⟩
set_option maxHeartbeats 1000000 in
theorem sameTexts_core (ba oa ca bb ob cb:Nat)(xs ys:List ByteArray)(w:World)(hx:∀k (h:k<xs.length),w.cell? ⟨ba,oa+k,none⟩=some (.string xs[k]))
  (hy:∀k (h:k<ys.length),w.cell? ⟨bb,ob+k,none⟩=some (.string ys[k])) (hl:xs.length=ys.length) (hm:xs.length<1000000) (r:Bool) (hr:r=decide (xs=ys)) :
  Calls Tryz.prog 13 #[.slice (some ⟨ba,oa,none⟩) xs.length ca,.slice (some ⟨bb,ob,none⟩) ys.length cb] w fun e w'=>e=.returned (.bool r)∧Below w.heap.size w w':=by
 have hlb:((xs.length:Int) != (ys.length:Int))=false:=by simp[hl]
 have HL:Hid (xs.length=ys.length):=hl
 have hle:ys.length<1000000:=by omega
 have HX:Hid _:=hx
 have HY:Hid _:=hy
 have HR:Hid _:=hr
 clear hl hx hy hr
 go_enter Tryz.func13,Tryz.ntmps13
 go_wp2
 go_loopw [5] (fun t W=>Below w.heap.size w W∧∃k:Nat,k≤xs.length∧t=.int .i64 k∧xs.take k=ys.take k) (fun t _=>xs.length - (intOf t).toNat)
 case atStart=>exact⟨Below.refl _ _,0,Nat.zero_le _,rfl,rfl⟩
 case round =>
  obtain⟨hb,k,hk,rfl,hpre⟩:=hrel
  have HP:Hid _:=hpre
  clear hpre
  by_cases hlt:k<xs.length
  ·have hlt':k<ys.length:=by rw[←HL.out];exact hlt
   have cx:=below_cell hb (HX.out k hlt)
   have cy:=below_cell hb (HY.out k hlt')
   have hi1:(k:Int)<(xs.length:Int):=by omega
   have hi2:(k:Int)<(ys.length:Int):=by omega
   generalize hxk:xs[k]=xk at *
   generalize hyk:ys[k]=yk at *
   have HXK:Hid _:=hxk
   have HYK:Hid _:=hyk
   clear hxk hyk
   by_cases heq:xk=yk
   ·have hne:(xk.toList==yk.toList)=true:=bytes_same heq
    have HE:Hid _:=heq
    clear heq
    go_wp2
    go_quiet (fail)
    go_wp2
    exact⟨⟨below_drewN hb _,k+1,by omega,by go_num,take_same HP.out hlt hlt' (by rw[HXK.out,HYK.out];exact HE.out)⟩,by simp[intOf];omega⟩
   ·have hne:(xk.toList==yk.toList)=false:=bytes_parts heq
    have HE:Hid _:=heq
    clear heq
    go_wp2
    go_quiet (fail)
    go_wp2
    go_ret
    refine⟨ret_bool ?_,below_drewN hb _⟩
    rw[HR.out]
    exact (decide_eq_false (get_parts hlt hlt' (by rw[HXK.out,HYK.out];exact HE.out))).symm
  ·go_wp2
   go_ret
   refine⟨ret_bool ?_,hb⟩
   rw[HR.out]
   exact (decide_eq_true (take_all HP.out hlt HL.out)).symm
set_option maxHeartbeats 1000000 in
theorem sameTexts_len (pa pb:Option Addr)(na nb ca cb:Nat)(w:World)(h:na≠nb)(_hm:na<1000000)(_hm':nb<1000000) :
  Calls Tryz.prog 13 #[.slice pa na ca,.slice pb nb cb] w fun e w'=>e=.returned (.bool false)∧w'=w:=by
 have hlb:((na:Int) != (nb:Int))=true:=by rw[bne_iff_ne];omega
 clear h
 go_enter Tryz.func13,Tryz.ntmps13
 go_wp2
 go_ret
 exact⟨rfl,rfl⟩
set_option maxHeartbeats 1000000 in
theorem sameTexts_zero (pa pb:Option Addr)(ca cb:Nat)(w:World) :
  Calls Tryz.prog 13 #[.slice pa 0 ca,.slice pb 0 cb] w fun e w'=>e=.returned (.bool true)∧w'=w:=by
 go_enter Tryz.func13,Tryz.ntmps13
 go_wp2
 refine wp_loop_rounds 1 ?_
 rw[rounds_succ]
 go_wp2
 go_ret
 exact⟨rfl,rfl⟩
theorem Strs.slice {w:World}{v:Value}{xs:List ByteArray}(h:Strs w v xs):∃p c,v=.slice p xs.length c:=by
 rcases h with⟨rfl,p,c,rfl⟩|⟨b,o,c,rfl,_,_⟩
 ·exact⟨p,c,rfl⟩
 ·exact⟨_,c,rfl⟩
theorem sameTexts_any (va vb:Value)(xs ys:List ByteArray)(w:World)(hx:Strs w va xs)(hy:Strs w vb ys)(hm:xs.length<1000000)(hm':ys.length<1000000) :
  Calls Tryz.prog 13 #[va,vb] w fun e w'=>e=.returned (.bool (decide (xs=ys)))∧Below w.heap.size w w':=by
 by_cases hl:xs.length=ys.length
 ·rcases hx with⟨rfl,p,c,rfl⟩|⟨b,o,c,rfl,_,hxc⟩
  ·obtain rfl:ys=[]:=List.length_eq_zero_iff.1 hl.symm
   obtain⟨q,d,rfl⟩:=hy.slice
   exact (sameTexts_zero p q c d w).mono fun e w' ⟨he,hw⟩=>⟨by rw[he,decide_eq_true rfl],by rw[hw];exact Below.refl _ _⟩
  ·rcases hy with⟨rfl,q,d,rfl⟩|⟨b',o',c',rfl,_,hyc⟩
   ·obtain rfl:xs=[]:=List.length_eq_zero_iff.1 hl
    exact (sameTexts_zero _ q c d w).mono fun e w' ⟨he,hw⟩=>⟨by rw[he,decide_eq_true rfl],by rw[hw];exact Below.refl _ _⟩
   ·exact sameTexts_core b o c b' o' c' xs ys w hxc hyc hl hm _ rfl
 ·obtain⟨p,c,rfl⟩:=hx.slice
  obtain⟨q,d,rfl⟩:=hy.slice
  exact (sameTexts_len p q _ _ c d w hl hm hm').mono fun e w' ⟨he,hw⟩=>⟨by rw[he,decide_eq_false (fun e=>hl (by rw[e]))],by rw[hw];exact Below.refl _ _⟩
end Go.Proofs.YtfhmfjcpggddkaaGreatDoor

/- Plain facts on 64-bit turns: each step of a turn can be undone. -/
namespace Go.Proofs.YtfhmfjcpggddkaaGreatDoor.Lh
def fold (s z:Nat):Nat:=z ^^^ z / 2 ^ s
def turn (z:Nat):Nat :=
 fold 31 (fold 27 (fold 30 ((z+11400714819323198485) % 18446744073709551616)*13787848793156543929 % 18446744073709551616)*10723151780598845931 % 18446744073709551616)
def unfold2 (s z:Nat):Nat:=z ^^^ z / 2 ^ s ^^^ z / 2 ^ (2*s)
theorem fold_lt (s z:Nat)(h:z<18446744073709551616):fold s z<18446744073709551616:=by
 have h2:z / 2 ^ s<2 ^ 64:=Nat.lt_of_le_of_lt (Nat.div_le_self _ _) (by simpa using h)
 have:=Nat.xor_lt_two_pow (x:=z) (y:=z / 2 ^ s) (n:=64) (by simpa using h) h2
 unfold fold
 simpa using this
def back (x:Nat):Nat :=
 (unfold2 30 (unfold2 27 (unfold2 31 x*3573116690164977347 % 18446744073709551616)*10871156337175269513 % 18446744073709551616)+7046029254386353131) % 18446744073709551616
theorem turn_lt (z:Nat):turn z<18446744073709551616:=fold_lt _ _ (Nat.mod_lt _ (by decide))
end Go.Proofs.YtfhmfjcpggddkaaGreatDoor.Lh

/- Turn of mix computes 'turn'; it leaves all old memory as it was. -/
namespace Go.Proofs.YtfhmfjcpggddkaaGreatDoor
open Go.RowKit
theorem wrapNat (z c:Nat):IntKind.u64.wrap ((z:Int)+(c:Int))=(((z+c) % 18446744073709551616:Nat):Int):=by
 rw[IntKind.wrap_u64];omega
theorem step30 (X:Nat)(hX:X<18446744073709551616):IntKind.u64.wrap (bits .xor .u64 (X:Int) ((X:Int) / 1073741824)*13787848793156543929)=((Lh.fold 30 X*13787848793156543929 % 18446744073709551616:Nat):Int) :=
 mixStep_u64 X 1073741824 13787848793156543929 hX
theorem step27 (X:Nat)(hX:X<18446744073709551616):IntKind.u64.wrap (bits .xor .u64 (X:Int) ((X:Int) / 134217728)*10723151780598845931)=((Lh.fold 27 X*10723151780598845931 % 18446744073709551616:Nat):Int) :=
 mixStep_u64 X 134217728 10723151780598845931 hX
theorem step31 (X:Nat)(hX:X<18446744073709551616):bits .xor .u64 (X:Int) ((X:Int) / 2147483648)=((Lh.fold 31 X:Nat):Int) :=
 xorShift_u64 X 2147483648 hX
theorem stepAdd (z:Nat):IntKind.u64.wrap ((z:Int)+11400714819323198485)=(((z+11400714819323198485) % 18446744073709551616:Nat):Int):=wrapNat z 11400714819323198485
set_option maxHeartbeats 400000 in
theorem turn_any (z:Nat)(w:World) :
  Calls Tryz.prog 183 #[.int .u64 z] w fun e w'=>e=.returned (.int .u64 (Lh.turn z:Nat))∧Below w.heap.size w w':=by
 go_enter Tryz.func183,Tryz.ntmps183
 go_wp2
 go_end0
 go_wp2
 go_end0
 go_wp2
 go_end0
 go_wp2
 go_ret
 refine⟨?_,(Below.refl _ _).alloc (Nat.le_refl _) _⟩
 rw[stepAdd,step30 _ (Nat.mod_lt _ (by decide)),step27 _ (Nat.mod_lt _ (by decide)),step31 _ (Nat.mod_lt _ (by decide))]
 rfl
end Go.Proofs.YtfhmfjcpggddkaaGreatDoor

/- What holds of memory alone. -/
namespace Go.Proofs.YtfhmfjcpggddkaaGreatDoor
open Go.RowKit
theorem below_then {w w1 w2:World}(h:Below w.heap.size w w1)(k:Below w1.heap.size w1 w2):Below w.heap.size w w2 :=
 h.trans (k.mono h.size)
theorem below_grown {w w':World}{r:Option Nat}(hg:w.grownBy w' r)(hr:∀k,r=some k→w.heap.size≤k):Below w.heap.size w w':=(Below.refl _ _).grown hg (Nat.le_refl _) hr
theorem ownsRow_below {w w':World}{base:Nat}{e:TypeId}{size:Nat}{v:Value}{n:Nat}{xs:List Value}(h:w.ownsRow base e size v n xs)(hb:Below w.heap.size w w'):w'.ownsRow base e size v n xs :=
 h.kept (row:=none) ⟨hb.os,hb.tape,hb.output,hb.size,fun k hk _=>hb.block k hk⟩ (by cases v.ownBlock<;>simp)
end Go.Proofs.YtfhmfjcpggddkaaGreatDoor

/- MixBack: the walks: 'mixed' is true, each step of a turn is undone. -/
namespace Go.Proofs.YtfhmfjcpggddkaaGreatDoor
open Go.RowKit
theorem unmul (X c:Nat):IntKind.u64.wrap ((X:Int)*(c:Int))=((X*c % 18446744073709551616:Nat):Int):=by
 rw[IntKind.wrap_u64,Int.natCast_emod,Int.natCast_mul];rfl
end Go.Proofs.YtfhmfjcpggddkaaGreatDoor

/- Of, Two, and the reference's NumberOf, TurnOf: the numbers that they compute. -/
namespace Go.Proofs.YtfhmfjcpggddkaaGreatDoor
open Go.RowKit
namespace Lh
def step (h:Nat)(c:UInt8):Nat:=(h ^^^ c.toNat)*1099511628211 % 18446744073709551616
def hash (l:List UInt8):Nat:=l.foldl step 14695981039346656037
def num (s:ByteArray)(salt:Nat):Nat:=turn (hash s.data.toList ^^^ turn salt)
theorem byte_lt (c:UInt8):c.toNat<18446744073709551616:=Nat.lt_trans c.toNat_lt (by decide)
theorem hash_lt (l:List UInt8):hash l<18446744073709551616:=by
 unfold hash
 have:∀(l:List UInt8) (h:Nat),h<18446744073709551616→l.foldl step h<18446744073709551616:=by
  intro l
  induction l with
  | nil=>intro h hh;exact hh
  | cons c r ih=>intro h _;exact ih _ (Nat.mod_lt _ (by decide))
 exact this l _ (by decide)
theorem foldl_snoc {α β:Type}(f:β→α→β)(b:β)(l:List α)(a:α):(l++[a]).foldl f b=f (l.foldl f b) a:=by rw[List.foldl_append];rfl
theorem hash_snoc (l:List UInt8)(c:UInt8):hash (l++[c])=step (hash l) c:=foldl_snoc step _ l c
end Lh
theorem xorNat (a b:Nat)(ha:a<18446744073709551616)(hb:b<18446744073709551616):bits .xor .u64 (a:Int) (b:Int)=((a ^^^ b:Nat):Int):=bits_xor_u64_nat a b ha hb
theorem stepNat (h:Nat)(c:UInt8)(hh:h<18446744073709551616):IntKind.u64.wrap (bits .xor .u64 (h:Int) (c.toNat:Int)*1099511628211)=((Lh.step h c:Nat):Int):=by
 rw[xorNat h c.toNat hh (Lh.byte_lt c)]
 exact unmul _ 1099511628211
theorem quNat (X d:Nat)(hX:X<18446744073709551616):IntKind.u64.wrap ((X:Int).tdiv (d:Int))=(X:Int) / (d:Int):=by
 have h1:(X:Int).tdiv (d:Int)=((X / d:Nat):Int):=(Int.ofNat_tdiv X d).symm
 have h2:X / d≤X:=Nat.div_le_self _ _
 rw[h1,IntKind.wrap_u64,←Int.natCast_ediv]
 generalize X / d=q at h2 ⊢
 omega
theorem qu30 (X:Nat)(hX:X<18446744073709551616):IntKind.u64.wrap ((X:Int).tdiv 1073741824)=(X:Int) / 1073741824:=quNat X 1073741824 hX
theorem qu27 (X:Nat)(hX:X<18446744073709551616):IntKind.u64.wrap ((X:Int).tdiv 134217728)=(X:Int) / 134217728:=quNat X 134217728 hX
theorem qu31 (X:Nat)(hX:X<18446744073709551616):IntKind.u64.wrap ((X:Int).tdiv 2147483648)=(X:Int) / 2147483648:=quNat X 2147483648 hX
set_option maxHeartbeats 400000 in
theorem turnOf_any (z:Nat)(w:World) :
  Calls Tryz.prog 75 #[.int .u64 z] w fun e w'=>e=.returned (.int .u64 (Lh.turn z:Nat))∧w'=w:=by
 go_enter Tryz.func75,Tryz.ntmps75
 go_wp2
 go_ret
 refine⟨?_,rfl⟩
 rw[stepAdd,qu30 _ (Nat.mod_lt _ (by decide)),step30 _ (Nat.mod_lt _ (by decide)),qu27 _ (Nat.mod_lt _ (by decide)),step27 _ (Nat.mod_lt _ (by decide)),qu31 _ (Nat.mod_lt _ (by decide)),step31 _ (Nat.mod_lt _ (by decide))]
 rfl
theorem take_snoc (s:ByteArray)(k:Nat)(h:k<s.size):s.data.toList.take (k+1)=s.data.toList.take k++[s[k]]:=by
 rw[List.take_succ_eq_append_getElem (by simpa using h)];rfl
theorem hash_next (s:ByteArray)(k:Nat)(h:k<s.size):IntKind.u64.wrap (bits .xor .u64 (Lh.hash (s.data.toList.take k):Int) (IntKind.u64.wrap (s[k].toNat:Int))*1099511628211)=((Lh.hash (s.data.toList.take (k+1)):Nat):Int):=by
 have hc:IntKind.u64.wrap (s[k].toNat:Int)=(s[k].toNat:Int):=by
  have:=Lh.byte_lt s[k]
  rw[IntKind.wrap_u64]
  omega
 rw[hc,stepNat _ _ (Lh.hash_lt _),take_snoc s k h,Lh.hash_snoc]
set_option maxHeartbeats 400000 in
theorem of_any (s:ByteArray)(salt:Nat)(w:World)(hs:s.size≤300) :
  Calls Tryz.prog 178 #[.string s,.int .u64 salt] w fun e w'=>e=.returned (.int .u64 (Lh.num s salt:Nat))∧Below w.heap.size w w':=by
 go_enter Tryz.func178,Tryz.ntmps178
 go_wp2
 go_loop [5,9] (fun h i=>∃k:Nat,k≤s.size∧i=.int .i64 k∧h=.int .u64 (Lh.hash (s.data.toList.take k):Nat)) (fun _ i=>s.size - (intOf i).toNat)
 case atStart=>exact⟨0,Nat.zero_le _,rfl,rfl⟩
 case round =>
  obtain⟨k,hk,rfl,rfl⟩:=hrel
  by_cases hlt:k<s.size
  ·have HN:Hid _:=hash_next s k hlt
   go_wp2
   go_round
   case rel=>exact⟨k+1,by omega,by go_num,by rw[←HN.out]⟩
   case measure=>simp[intOf];omega
  ·have hfull:s.data.toList.take k=s.data.toList:=List.take_of_length_le (by simp;omega)
   rw[hfull]
   clear hfull
   go_wp2_with fail
   refine (turn_any salt _).mono ?_
   rintro e w1 ⟨rfl,hb1⟩
   go_wp2_with fail
   rw[xorNat _ _ (Lh.hash_lt _) (Lh.turn_lt _)]
   refine (turn_any _ _).mono ?_
   rintro e w2 ⟨rfl,hb2⟩
   go_wp2
   go_ret
   exact⟨rfl,below_then hb1 hb2⟩
set_option maxHeartbeats 400000 in
theorem numberOf_any (s:ByteArray)(salt:Nat)(w:World)(hs:s.size≤300) :
  Calls Tryz.prog 127 #[.string s,.int .u64 salt] w fun e w'=>e=.returned (.int .u64 (Lh.num s salt:Nat))∧w'=w:=by
 go_enter Tryz.func127,Tryz.ntmps127
 go_wp2
 go_loop [5,6] (fun h i=>∃k:Nat,k≤s.size∧i=.int .i64 k∧h=.int .u64 (Lh.hash (s.data.toList.take k):Nat)) (fun _ i=>s.size - (intOf i).toNat)
 case atStart=>exact⟨0,Nat.zero_le _,rfl,rfl⟩
 case round =>
  obtain⟨k,hk,rfl,rfl⟩:=hrel
  by_cases hlt:k<s.size
  ·have HN:Hid _:=hash_next s k hlt
   go_wp2
   go_round
   case rel=>exact⟨k+1,by omega,by go_num,by rw[←HN.out]⟩
   case measure=>simp[intOf];omega
  ·have hfull:s.data.toList.take k=s.data.toList:=List.take_of_length_le (by simp;omega)
   rw[hfull]
   clear hfull
   go_wp2_with fail
   refine (turnOf_any salt _).mono ?_
   rintro e w1 ⟨rfl,rfl⟩
   go_wp2_with fail
   rw[xorNat _ _ (Lh.hash_lt _) (Lh.turn_lt _)]
   refine (turnOf_any _ _).mono ?_
   rintro e w2 ⟨rfl,rfl⟩
   go_wp2
   go_ret
   exact⟨rfl,rfl⟩
end Go.Proofs.YtfhmfjcpggddkaaGreatDoor
