/- Names of hosts: what is a name; lists that hold a text. -/
import Derived.Test.YtjeicikflkjacaaGreatDoorM1
import Derived.Laws.AppendOwnNone
import Derived.Laws.CopyOwn
set_option maxHeartbeats 20000000
namespace Go.Proofs.YtjeicikflkjacaaGreatDoor
open Go.RowKit
namespace Lh
def letter (c:UInt8):Bool:=decide (97≤(c.toNat:Int)) && decide ((c.toNat:Int)≤122)
def digit (c:UInt8):Bool:=decide (48≤(c.toNat:Int)) && decide ((c.toNat:Int)≤57)
def okc (c:UInt8):Bool:=letter c || digit c || ((c.toNat:Int)==45)
def isNm (s:ByteArray):Bool:=decide (1≤s.size) && decide (s.size≤12) && (s.data.toList.head?.any letter) && s.data.toList.all okc
end Lh
theorem letter_any (c:UInt8)(w:World):Calls Tryz.prog 87 #[.int .u8 c.toNat] w fun e w'=>e=.returned (.bool (Lh.letter c))∧w'=w:=by
 by_cases h1:97≤(c.toNat:Int)
 ·by_cases h2:(c.toNat:Int)≤122
  ·have hr:Lh.letter c=true:=by simp[Lh.letter,h1,h2]
   rw[hr]
   go_enter Tryz.func87,Tryz.ntmps87
   go_wp2
   go_ret
   exact⟨rfl,rfl⟩
  ·have hr:Lh.letter c=false:=by simp[Lh.letter,h2]
   rw[hr]
   have h3:decide ((c.toNat:Int)≤122)=false:=by simpa using h2
   go_enter Tryz.func87,Tryz.ntmps87
   go_wp2
   go_ret
   exact⟨rfl,rfl⟩
 ·have hr:Lh.letter c=false:=by simp[Lh.letter,h1]
  rw[hr]
  have h3:decide (97≤(c.toNat:Int))=false:=by simpa using h1
  go_enter Tryz.func87,Tryz.ntmps87
  go_wp2
  go_ret
  exact⟨rfl,rfl⟩
theorem digit_any (c:UInt8)(w:World):Calls Tryz.prog 88 #[.int .u8 c.toNat] w fun e w'=>e=.returned (.bool (Lh.digit c))∧w'=w:=by
 by_cases h1:48≤(c.toNat:Int)
 ·by_cases h2:(c.toNat:Int)≤57
  ·have hr:Lh.digit c=true:=by simp[Lh.digit,h1,h2]
   rw[hr]
   go_enter Tryz.func88,Tryz.ntmps88
   go_wp2
   go_ret
   exact⟨rfl,rfl⟩
  ·have hr:Lh.digit c=false:=by simp[Lh.digit,h2]
   rw[hr]
   have h3:decide ((c.toNat:Int)≤57)=false:=by simpa using h2
   go_enter Tryz.func88,Tryz.ntmps88
   go_wp2
   go_ret
   exact⟨rfl,rfl⟩
 ·have hr:Lh.digit c=false:=by simp[Lh.digit,h1]
  rw[hr]
  have h3:decide (48≤(c.toNat:Int))=false:=by simpa using h1
  go_enter Tryz.func88,Tryz.ntmps88
  go_wp2
  go_ret
  exact⟨rfl,rfl⟩
theorem byte_at (s:ByteArray)(k:Nat)(h:k<s.size):s.data.toList[k]'(by simpa using h)=s[k]:=rfl
theorem all_take (s:ByteArray)(k:Nat)(h:k<s.size):(s.data.toList.take (k+1)).all Lh.okc=((s.data.toList.take k).all Lh.okc && Lh.okc s[k]):=by
 rw[take_snoc s k h,List.all_append];simp
theorem all_take_false (s:ByteArray)(k:Nat)(h:k<s.size)(hc:Lh.okc s[k]=false):s.data.toList.all Lh.okc=false:=by
 rw[List.all_eq_false]
 exact⟨s[k],by rw[←byte_at s k h];exact List.getElem_mem _,by simp[hc]⟩
theorem head_eq (s:ByteArray)(h:0<s.size):s.data.toList.head?.any Lh.letter=Lh.letter s[0]:=by
 rw[List.head?_eq_getElem?,List.getElem?_eq_getElem (by simpa using h),byte_at s 0 h];rfl
theorem isName_any (s:ByteArray)(w:World)(hs:s.size≤1000000) :
  Calls Tryz.prog 75 #[.string s] w fun e w'=>e=.returned (.bool (Lh.isNm s))∧w'=w:=by
 obtain⟨r,hr⟩:∃r,r=Lh.isNm s:=⟨_,rfl⟩
 rw[←hr]
 have HR:Hid _:=hr
 clear hr
 by_cases h0:s.size=0
 ·have e0:((s.size:Int)==0)=true:=by simp[h0]
  have:r=false:=by rw[HR.out];simp[Lh.isNm,h0]
  subst this
  clear h0
  go_enter Tryz.func75,Tryz.ntmps75
  go_wp2
  go_ret
  exact⟨rfl,rfl⟩
 ·have e0:((s.size:Int)==0)=false:=by rw[beq_eq_false_iff_ne];omega
  have h0':0<s.size:=by omega
  clear h0
  by_cases h12:12<s.size
  ·have e12:decide (12<(s.size:Int))=true:=by simp;omega
   have:r=false:=by rw[HR.out];simp[Lh.isNm];omega
   subst this
   go_enter Tryz.func75,Tryz.ntmps75
   go_wp2
   go_ret
   exact⟨rfl,rfl⟩
  ·have e12:decide (12<(s.size:Int))=false:=by simp;omega
   cases hl:Lh.letter s[0] with
   | false =>
    have:r=false:=by rw[HR.out];simp[Lh.isNm,head_eq s h0',hl]
    subst this
    have HL:Hid _:=hl
    clear hl
    go_enter Tryz.func75,Tryz.ntmps75
    go_wp2_with fail
    refine (letter_any _ _).mono ?_
    rintro e w1 ⟨rfl,rfl⟩
    rw[HL.out]
    go_wp2
    go_ret
    exact⟨rfl,rfl⟩
   | true =>
    have hra:r=s.data.toList.all Lh.okc:=by
     rw[HR.out];simp[Lh.isNm,head_eq s h0',hl];omega
    have HA:Hid _:=hra
    have HL:Hid _:=hl
    clear hra hl HR
    go_enter Tryz.func75,Tryz.ntmps75
    go_wp2_with fail
    refine (letter_any _ _).mono ?_
    rintro e w1 ⟨rfl,rfl⟩
    rw[HL.out]
    go_wp2_with fail
    go_loopw [20] (fun i W=>W=w1∧∃k:Nat,k≤s.size∧i=.int .i64 k∧(s.data.toList.take k).all Lh.okc=true) (fun i _=>s.size - (intOf i).toNat)
    case atStart=>exact⟨rfl,0,Nat.zero_le _,rfl,rfl⟩
    case round =>
     obtain⟨rfl,k,hk,rfl,hall⟩:=hrel
     have HP:Hid _:=hall
     clear hall
     by_cases hlt:k<s.size
     ·have HT:Hid _:=all_take s k hlt
      have HF:Hid (Lh.okc s[k]=false→s.data.toList.all Lh.okc=false):=all_take_false s k hlt
      cases h1:Lh.letter s[k] with
      | true =>
       have HO:Hid _:=(by simp[Lh.okc,h1]:Lh.okc s[k]=true)
       have H1:Hid _:=h1
       clear h1
       go_wp2_with fail
       refine (letter_any _ _).mono ?_
       rintro e w2 ⟨rfl,rfl⟩
       rw[H1.out]
       go_wp2
       exact⟨⟨by trivial,k+1,by omega,by go_num,by rw[HT.out,HP.out,HO.out];rfl⟩,by simp[intOf];omega⟩
      | false =>
       cases h2:Lh.digit s[k] with
       | true =>
        have HO:Hid _:=(by simp[Lh.okc,h2]:Lh.okc s[k]=true)
        have H1:Hid _:=h1
        have H2:Hid _:=h2
        clear h1 h2
        go_wp2_with fail
        refine (letter_any _ _).mono ?_
        rintro e w2 ⟨rfl,rfl⟩
        rw[H1.out]
        go_wp2_with fail
        refine (digit_any _ _).mono ?_
        rintro e w3 ⟨rfl,rfl⟩
        rw[H2.out]
        go_wp2
        exact⟨⟨by trivial,k+1,by omega,by go_num,by rw[HT.out,HP.out,HO.out];rfl⟩,by simp[intOf];omega⟩
       | false =>
        cases h3:((s[k].toNat:Int)==45) with
        | true =>
         have HO:Hid _:=(by simp only[Lh.okc,h3,Bool.or_true]:Lh.okc s[k]=true)
         have hne:((s[k].toNat:Int) != 45)=false:=by rw[bne,h3];rfl
         have H1:Hid _:=h1
         have H2:Hid _:=h2
         clear h1 h2 h3
         go_wp2_with fail
         refine (letter_any _ _).mono ?_
         rintro e w2 ⟨rfl,rfl⟩
         rw[H1.out]
         go_wp2_with fail
         refine (digit_any _ _).mono ?_
         rintro e w3 ⟨rfl,rfl⟩
         rw[H2.out]
         go_wp2
         exact⟨⟨by trivial,k+1,by omega,by go_num,by rw[HT.out,HP.out,HO.out];rfl⟩,by simp[intOf];omega⟩
        | false =>
         have HO:Hid _:=(by simp only[Lh.okc,h1,h2,h3];rfl:Lh.okc s[k]=false)
         have hne:((s[k].toNat:Int) != 45)=true:=by rw[bne,h3];rfl
         have H1:Hid _:=h1
         have H2:Hid _:=h2
         clear h1 h2 h3
         go_wp2_with fail
         refine (letter_any _ _).mono ?_
         rintro e w2 ⟨rfl,rfl⟩
         rw[H1.out]
         go_wp2_with fail
         refine (digit_any _ _).mono ?_
         rintro e w3 ⟨rfl,rfl⟩
         rw[H2.out]
         go_wp2
         go_ret
         refine⟨ret_bool ?_,rfl⟩
         rw[HA.out,HF.out HO.out]
     ·go_wp2
      go_ret
      refine⟨ret_bool ?_,rfl⟩
      rw[HA.out,←HP.out,List.take_of_length_le (by simp;omega)]
namespace Lh
def mem (s:ByteArray)(xs:List ByteArray):Bool:=xs.any fun x=>decide (x=s)
theorem mem_true {s:ByteArray}{xs:List ByteArray}(h:s∈xs):mem s xs=true:=by
 unfold mem;rw[List.any_eq_true];exact⟨s,h,by simp⟩
theorem mem_false {s:ByteArray}{xs:List ByteArray}(h:¬s∈xs):mem s xs=false:=by
 unfold mem;rw[List.any_eq_false];intro x hx;simp only[decide_eq_true_eq];intro e;subst e;exact h hx
end Lh
def ErrIs (a:Nat→Addr)(W:World)(c:Nat)(pl:Int)(v:Value):Prop :=
 (c=0∧pl = -1∧v=.nilIface) ∨
 (∃i,i<9∧c=i+1∧((pl = -1∧v=.iface 179 (.pointer (some (a i)))) ∨
  ∃b,v=.iface 66 (.pointer (some ⟨b,0,none⟩))∧W.cell? ⟨b,0,none⟩=some (.int .i64 pl)∧W.cell? ⟨b,1,none⟩=some (.iface 179 (.pointer (some (a i))))))
theorem ErrIs.later {a:Nat→Addr}{W W':World}{c:Nat}{pl:Int}{v:Value}(h:ErrIs a W c pl v)(hb:Below W.heap.size W W'):ErrIs a W' c pl v:=by
 rcases h with h|⟨i,hi,hc,h|⟨b,hv,h0,h1⟩⟩
 ·exact Or.inl h
 ·exact Or.inr ⟨i,hi,hc,Or.inl h⟩
 ·exact Or.inr ⟨i,hi,hc,Or.inr ⟨b,hv,below_cell hb h0,below_cell hb h1⟩⟩
theorem code_is {a:Nat→Addr}{W:World}{c:Nat}{pl:Int}{v:Value}(he:Errs a W)(h:ErrIs a W c pl v) :
  Calls Tryz.prog 26 #[v] W fun e w'=>e=.returned (.tuple #[.int .i64 c,.int .i64 pl])∧Below W.heap.size W w':=by
 rcases h with⟨rfl,rfl,rfl⟩|⟨i,hi,rfl,⟨rfl,rfl⟩|⟨b,rfl,h0,h1⟩⟩
 ·exact (code_nil W).mono fun e w' ⟨h1,h2⟩=>⟨h1,by rw[h2];exact Below.refl _ _⟩
 ·have:=code_sent a i hi W he
  rw[codeNum_lt hi] at this
  exact this
 ·have:=code_fault a i hi pl b W he h0 h1
  rw[codeNum_lt hi] at this
  exact this
/- the first place of a text in a list -/
theorem contains_core (b o c:Nat)(xs:List ByteArray)(s:ByteArray)(w:World)(hx:∀k (h:k<xs.length),w.cell? ⟨b,o+k,none⟩=some (.string xs[k]))(hm:xs.length<1000000) :
  Calls Tryz.prog 89 #[.slice (some ⟨b,o,none⟩) xs.length c,.string s] w fun e w'=>(∃j:Int,e=.returned (.int .i64 j)∧decide (0≤j)=Lh.mem s xs)∧w'=w:=by
 have HX:Hid _:=hx
 clear hx
 go_enter Tryz.func89,Tryz.ntmps89
 go_wp2
 go_loop [8] (fun t=>∃k:Nat,k≤xs.length∧t=.int .i64 k∧∀j (h:j<xs.length),j<k→xs[j]≠s) (fun t=>xs.length - (intOf t).toNat)
 case atStart=>exact⟨0,Nat.zero_le _,rfl,fun j _ h=>absurd h (by omega)⟩
 case round =>
  obtain⟨k,hk,rfl,hpre⟩:=hrel
  have HP:Hid _:=hpre
  clear hpre
  by_cases hlt:k<xs.length
  ·have cx:=HX.out k hlt
   generalize hxk:xs[k]=xk at *
   have HXK:Hid _:=hxk
   clear hxk
   by_cases heq:s=xk
   ·have hne:(s.toList==xk.toList)=true:=bytes_same heq
    have HE:Hid _:=heq
    clear heq
    go_wp2
    go_ret
    refine⟨⟨(k:Int),rfl,?_⟩,rfl⟩
    rw[decide_eq_true (by omega),Lh.mem_true]
    rw[HE.out,←HXK.out]
    exact List.getElem_mem _
   ·have hne:(s.toList==xk.toList)=false:=bytes_parts heq
    have HE:Hid _:=heq
    clear heq
    go_wp2
    go_round
    case rel =>
     refine⟨k+1,by omega,by go_num,fun j h hj=>?_⟩
     by_cases hjk:j=k
     ·subst hjk;rw[HXK.out];exact fun e=>HE.out e.symm
     ·exact HP.out j h (by omega)
    case measure=>simp[intOf];omega
  ·go_wp2
   go_ret
   refine⟨⟨-1,rfl,?_⟩,rfl⟩
   rw[decide_eq_false (by omega),Lh.mem_false]
   intro hm
   obtain⟨j,hj,e⟩:=List.getElem_of_mem hm
   exact HP.out j hj (by omega) e
theorem index_zero (p:Option Addr)(c:Nat)(s:ByteArray)(w:World) :
  Calls Tryz.prog 89 #[.slice p 0 c,.string s] w fun e w'=>e=.returned (.int .i64 (-1))∧w'=w:=by
 go_enter Tryz.func89,Tryz.ntmps89
 go_wp2
 refine wp_loop_rounds 1 ?_
 rw[rounds_succ]
 go_wp2
 go_ret
 exact⟨rfl,rfl⟩
theorem contains_any (v:Value)(xs:List ByteArray)(s:ByteArray)(w:World)(hv:Strs w v xs)(hm:xs.length<1000000) :
  Calls Tryz.prog 76 #[v,.string s] w fun e w'=>e=.returned (.bool (Lh.mem s xs))∧w'=w:=by
 have key:Calls Tryz.prog 89 #[v,.string s] w fun e w'=>(∃j:Int,e=.returned (.int .i64 j)∧decide (0≤j)=Lh.mem s xs)∧w'=w:=by
  rcases hv with⟨rfl,p,c,rfl⟩|⟨b,o,c,rfl,_,hc⟩
  ·exact (index_zero p c s w).mono fun e w' ⟨h1,h2⟩=>⟨⟨-1,h1,rfl⟩,h2⟩
  ·exact contains_core b o c xs s w hc hm
 clear hv
 go_enter Tryz.func76,Tryz.ntmps76
 go_wp2_with fail
 refine key.mono ?_
 rintro e w1 ⟨⟨j,rfl,hj⟩,rfl⟩
 have HJ:Hid _:=hj
 clear hj key
 go_wp2
 go_ret
 exact⟨ret_bool HJ.out,rfl⟩
def Good (xs:List ByteArray)(j:Nat)(h:j<xs.length):Prop:=Lh.isNm xs[j]=true∧Lh.mem xs[j] (xs.take j)=false
def IsFault (xs:List ByteArray)(c:Nat)(pl:Int):Prop :=
 (12<xs.length∧c=2∧pl = -1) ∨
 (¬12<xs.length∧∃i,∃h:i<xs.length,(∀j,j<i→∀hj:j<xs.length,Good xs j hj)∧pl=i∧((Lh.isNm xs[i]=false∧c=4)∨(Lh.isNm xs[i]=true∧Lh.mem xs[i] (xs.take i)=true∧c=6))) ∨
 (¬12<xs.length∧(∀j,∀hj:j<xs.length,Good xs j hj)∧c=0∧pl = -1)
theorem fault_scan (xs:List ByteArray):∀n,n≤xs.length→(∀j,j<n→∀hj:j<xs.length,Good xs j hj)∨∃i,∃h:i<xs.length,(∀j,j<i→∀hj:j<xs.length,Good xs j hj)∧¬Good xs i h
 | 0,_=>Or.inl fun j h=>absurd h (by omega)
 | n+1,hn=>by
  rcases fault_scan xs n (by omega) with h|h
  ·by_cases hg:Good xs n (by omega)
   ·refine Or.inl fun j hj hl=>?_
    by_cases e:j=n
    ·subst e;exact hg
    ·exact h j (by omega) hl
   ·exact Or.inr ⟨n,by omega,h,hg⟩
  ·exact Or.inr h
theorem isFault_ex (xs:List ByteArray):∃c pl,IsFault xs c pl:=by
 by_cases h12:12<xs.length
 ·exact⟨2,-1,Or.inl ⟨h12,rfl,rfl⟩⟩
 ·rcases fault_scan xs xs.length (Nat.le_refl _) with h|⟨i,hi,h,hg⟩
  ·exact⟨0,-1,Or.inr (Or.inr ⟨h12,fun j hj=>h j hj hj,rfl,rfl⟩)⟩
  ·cases hn:Lh.isNm xs[i] with
   | false=>exact⟨4,i,Or.inr (Or.inl ⟨h12,i,hi,h,rfl,Or.inl ⟨hn,rfl⟩⟩)⟩
   | true =>
    cases hm:Lh.mem xs[i] (xs.take i) with
    | true=>exact⟨6,i,Or.inr (Or.inl ⟨h12,i,hi,h,rfl,Or.inr ⟨hn,hm,rfl⟩⟩)⟩
    | false=>exact absurd ⟨hn,hm⟩ hg
/- what the loops find -/
theorem fault_name {xs:List ByteArray}{c:Nat}{pl:Int}(hf:IsFault xs c pl)(h12:¬12<xs.length){k:Nat}(hk:k<xs.length)(hp:∀j,j<k→∀hj:j<xs.length,Good xs j hj)(hn:Lh.isNm xs[k]=false):c=4∧pl=k:=by
 rcases hf with⟨h,_⟩|⟨_,i,hi,h,e,hc⟩|⟨_,h,_⟩
 ·exact absurd h h12
 ·have hik:i=k:=by
   rcases Nat.lt_trichotomy i k with hlt|rfl|hgt
   ·obtain⟨g1,g2⟩:=hp i hlt hi
    rcases hc with⟨hc,_⟩|⟨_,hc,_⟩
    ·rw[g1] at hc;cases hc
    ·rw[g2] at hc;cases hc
   ·rfl
   ·rw[(h k hgt hk).1] at hn;cases hn
  subst hik
  rcases hc with⟨_,hc⟩|⟨hc,_⟩
  ·exact⟨hc,e⟩
  ·rw[hn] at hc;cases hc
 ·rw[(h k hk).1] at hn;cases hn
theorem fault_exist {xs:List ByteArray}{c:Nat}{pl:Int}(hf:IsFault xs c pl)(h12:¬12<xs.length){k:Nat}(hk:k<xs.length)(hp:∀j,j<k→∀hj:j<xs.length,Good xs j hj)(hn:Lh.isNm xs[k]=true)(hm:Lh.mem xs[k] (xs.take k)=true):c=6∧pl=k:=by
 rcases hf with⟨h,_⟩|⟨_,i,hi,h,e,hc⟩|⟨_,h,_⟩
 ·exact absurd h h12
 ·have hik:i=k:=by
   rcases Nat.lt_trichotomy i k with hlt|rfl|hgt
   ·obtain⟨g1,g2⟩:=hp i hlt hi
    rcases hc with⟨hc,_⟩|⟨_,hc,_⟩
    ·rw[g1] at hc;cases hc
    ·rw[g2] at hc;cases hc
   ·rfl
   ·rw[(h k hgt hk).2] at hm;cases hm
  subst hik
  rcases hc with⟨hc,_⟩|⟨_,_,hc⟩
  ·rw[hn] at hc;cases hc
  ·exact⟨hc,e⟩
 ·rw[(h k hk).2] at hm;cases hm
theorem fault_none {xs:List ByteArray}{c:Nat}{pl:Int}(hf:IsFault xs c pl)(h12:¬12<xs.length)(hp:∀j,∀hj:j<xs.length,Good xs j hj):c=0∧pl = -1:=by
 rcases hf with⟨h,_⟩|⟨_,i,hi,h,e,hc⟩|⟨_,_,h⟩
 ·exact absurd h h12
 ·obtain⟨g1,g2⟩:=hp i hi
  rcases hc with⟨hc,_⟩|⟨_,hc,_⟩
  ·rw[g1] at hc;cases hc
  ·rw[g2] at hc;cases hc
 ·exact h
theorem fault_long {xs:List ByteArray}{c:Nat}{pl:Int}(hf:IsFault xs c pl)(h12:12<xs.length):c=2∧pl = -1:=by
 rcases hf with⟨_,h⟩|⟨h,_⟩|⟨h,_⟩
 ·exact h
 ·exact absurd h12 h
 ·exact absurd h12 h
theorem strs_take {w:World}{b o c:Nat}{xs:List ByteArray}(hcap:xs.length≤c)(hx:∀k (h:k<xs.length),w.cell? ⟨b,o+k,none⟩=some (.string xs[k]))(k:Nat)(hk:k≤xs.length):Strs w (.slice (some ⟨b,o,none⟩) k c) (xs.take k):=by
 have hl:(xs.take k).length=k:=by simp;omega
 refine Or.inr ⟨b,o,c,by rw[hl],by omega,fun j hj=>?_⟩
 rw[hx j (by omega)]
 simp
theorem check_zero (p:Option Addr)(cap:Nat)(w:World) :
  Calls Tryz.prog 48 #[.slice p 0 cap] w fun e w'=>e=.returned .nilIface∧w'=w:=by
 go_enter Tryz.func48,Tryz.ntmps48
 go_wp2
 refine wp_loop_rounds 1 ?_
 rw[rounds_succ]
 go_wp2
 go_ret
 exact⟨rfl,rfl⟩
theorem bare_any (n:Int)(w:World):Calls Tryz.prog 21 #[.int .i64 n] w fun e w'=>e=.returned (.agg #[.int .i64 n,.int .i64 (-1)])∧Below w.heap.size w w':=by
 go_enter Tryz.func21,Tryz.ntmps21
 go_wp2
 exact bodyPost_ret (v:=.agg #[.int .i64 n,.int .i64 (-1)]) (by simp[results,Tryz.results21,go_sem]) rfl ⟨rfl,(Below.refl _ _).alloc (Nat.le_refl _) _⟩
theorem fine_any (w:World):Calls Tryz.prog 22 #[] w fun e w'=>e=.returned (.agg #[.int .i64 0,.int .i64 (-1)])∧Below w.heap.size w w':=by
 go_enter Tryz.func22,Tryz.ntmps22
 go_wp2
 exact bodyPost_ret (v:=.agg #[.int .i64 0,.int .i64 (-1)]) (by simp[results,Tryz.results22,go_sem]) rfl ⟨rfl,(Below.refl _ _).alloc (Nat.le_refl _) _⟩
def Strs1 (w:World)(v:Value)(xs:List ByteArray):Prop :=
 (xs=[]∧(v=.slice none 0 0∨∃a c,v=.slice (some a) 0 c))∨∃b o c,v=.slice (some ⟨b,o,none⟩) xs.length c∧xs.length≤c∧∀k (h:k<xs.length),w.cell? ⟨b,o+k,none⟩=some (.string xs[k])
theorem Strs1.strs {w:World}{v:Value}{xs:List ByteArray}(h:Strs1 w v xs):Strs w v xs:=by
 rcases h with⟨rfl,rfl|⟨a,c,rfl⟩⟩|h
 ·exact Or.inl ⟨rfl,_,_,rfl⟩
 ·exact Or.inl ⟨rfl,_,_,rfl⟩
 ·exact Or.inr h
theorem Strs1.later {w w':World}{v:Value}{xs:List ByteArray}(h:Strs1 w v xs)(hb:Below w.heap.size w w'):Strs1 w' v xs:=by
 rcases h with h|⟨b,o,c,rfl,hcap,hc⟩
 ·exact Or.inl h
 ·exact Or.inr ⟨b,o,c,rfl,hcap,fun k hk=>below_cell hb (hc k hk)⟩
theorem infoS:(Tryz.prog.info? 9).map (fun i=>(i.zero,i.size,i.bytes))=some (some (.string ByteArray.empty),1,16):=by kernel_rfl
theorem strs_of_owns {w:World}{base n:Nat}{v:Value}{e:TypeId}{xs:List ByteArray}(h:w.ownsRow base e 1 v n (xs.map Value.string)):Strs1 w v xs:=by
 obtain⟨hl,⟨rfl,rfl⟩|⟨g,cap,cur,rfl,hbase,hb,hn,hm,hsz,ht⟩⟩:=h
 ·have:xs=[]:=by simpa using hl
  exact Or.inl ⟨this,Or.inl rfl⟩
 ·have hl':xs.length=n:=by simpa using hl
  refine Or.inr ⟨g,0,cap,by rw[hl'],by omega,fun k hk=>?_⟩
  have hk':(cur.toList.take (n*1))[k]?=some (.string xs[k]):=by rw[ht];simp[hk]
  rw[List.getElem?_take_of_lt (by omega)] at hk'
  simp only[World.cell?,hb,Nat.zero_add]
  simpa using hk'
theorem strs_oneCell (xs:List ByteArray):∀u∈xs.map Value.string,u.oneCell'=true:=by
 intro u hu
 obtain⟨_,_,rfl⟩:=List.mem_map.1 hu
 rfl
theorem cells_strs {w:World}{b o:Nat}{xs:List ByteArray}(hx:∀k (h:k<xs.length),w.cell? ⟨b,o+k,none⟩=some (.string xs[k])):∀j u,(xs.map Value.string)[j]?=some u→w.cell? ((⟨b,o,none⟩:Addr).add j)=some u:=by
 intro j u hu
 obtain⟨hj,rfl⟩:=List.getElem?_eq_some_iff.1 hu
 rw[Addr.add_lit,hx j (by simpa using hj)]
 simp
end Go.Proofs.YtjeicikflkjacaaGreatDoor
