/- Names of hosts: what is a name; lists that hold a text. -/
import Derived.Test.YtjeicikflkjacaaGreatDoorM0
import Derived.Laws.AppendOwnNone
import Derived.Laws.CopyOwn
import Derived.SliceStrings
set_option maxHeartbeats 20000000
namespace Go.Proofs.YtjeicikflkjacaaGreatDoor
open Go.RowKit
namespace Lh
def letter (c:UInt8):Bool:=decide (97≤(c.toNat:Int)) && decide ((c.toNat:Int)≤122)
def digit (c:UInt8):Bool:=decide (48≤(c.toNat:Int)) && decide ((c.toNat:Int)≤57)
def okc (c:UInt8):Bool:=letter c || digit c || ((c.toNat:Int)==45)
def isNm (s:ByteArray):Bool:=decide (1≤s.size) && decide (s.size≤12) && (s.data.toList.head?.any letter) && s.data.toList.all okc
end Lh
theorem letter_any (c:UInt8)(w:World):Calls Tryz.prog 87 #[.int .u8 c.toNat] w fun e w'=>e=.returned (.bool (Lh.letter c))∧w'=w:=by
 by_cases h1:97≤(c.toNat:Int)
 ·by_cases h2:(c.toNat:Int)≤122
  ·have hr:Lh.letter c=true:=by simp[Lh.letter,h1,h2]
   rw[hr]
   go_enter Tryz.func87,Tryz.ntmps87
   go_wp2
   go_ret
   exact⟨rfl,rfl⟩
  ·have hr:Lh.letter c=false:=by simp[Lh.letter,h2]
   rw[hr]
   have h3:decide ((c.toNat:Int)≤122)=false:=by simpa using h2
   go_enter Tryz.func87,Tryz.ntmps87
   go_wp2
   go_ret
   exact⟨rfl,rfl⟩
 ·have hr:Lh.letter c=false:=by simp[Lh.letter,h1]
  rw[hr]
  have h3:decide (97≤(c.toNat:Int))=false:=by simpa using h1
  go_enter Tryz.func87,Tryz.ntmps87
  go_wp2
  go_ret
  exact⟨rfl,rfl⟩
theorem digit_any (c:UInt8)(w:World):Calls Tryz.prog 88 #[.int .u8 c.toNat] w fun e w'=>e=.returned (.bool (Lh.digit c))∧w'=w:=by
 by_cases h1:48≤(c.toNat:Int)
 ·by_cases h2:(c.toNat:Int)≤57
  ·have hr:Lh.digit c=true:=by simp[Lh.digit,h1,h2]
   rw[hr]
   go_enter Tryz.func88,Tryz.ntmps88
   go_wp2
   go_ret
   exact⟨rfl,rfl⟩
  ·have hr:Lh.digit c=false:=by simp[Lh.digit,h2]
   rw[hr]
   have h3:decide ((c.toNat:Int)≤57)=false:=by simpa using h2
   go_enter Tryz.func88,Tryz.ntmps88
   go_wp2
   go_ret
   exact⟨rfl,rfl⟩
 ·have hr:Lh.digit c=false:=by simp[Lh.digit,h1]
  rw[hr]
  have h3:decide (48≤(c.toNat:Int))=false:=by simpa using h1
  go_enter Tryz.func88,Tryz.ntmps88
  go_wp2
  go_ret
  exact⟨rfl,rfl⟩
theorem byte_at (s:ByteArray)(k:Nat)(h:k<s.size):s.data.toList[k]'(by simpa using h)=s[k]:=rfl
theorem all_take (s:ByteArray)(k:Nat)(h:k<s.size):(s.data.toList.take (k+1)).all Lh.okc=((s.data.toList.take k).all Lh.okc && Lh.okc s[k]):=by
 rw[take_snoc s k h,List.all_append];simp
theorem all_take_false (s:ByteArray)(k:Nat)(h:k<s.size)(hc:Lh.okc s[k]=false):s.data.toList.all Lh.okc=false:=by
 rw[List.all_eq_false]
 exact⟨s[k],by rw[←byte_at s k h];exact List.getElem_mem _,by simp[hc]⟩
theorem head_eq (s:ByteArray)(h:0<s.size):s.data.toList.head?.any Lh.letter=Lh.letter s[0]:=by
 rw[List.head?_eq_getElem?,List.getElem?_eq_getElem (by simpa using h),byte_at s 0 h];rfl
theorem isName_any (s:ByteArray)(w:World)(hs:s.size≤1000000) :
  Calls Tryz.prog 75 #[.string s] w fun e w'=>e=.returned (.bool (Lh.isNm s))∧w'=w:=by
 obtain⟨r,hr⟩:∃r,r=Lh.isNm s:=⟨_,rfl⟩
 rw[←hr]
 have HR:Hid _:=hr
 clear hr
 by_cases h0:s.size=0
 ·have e0:((s.size:Int)==0)=true:=by simp[h0]
  have:r=false:=by rw[HR.out];simp[Lh.isNm,h0]
  subst this
  clear h0
  go_enter Tryz.func75,Tryz.ntmps75
  go_wp2
  go_ret
  exact⟨rfl,rfl⟩
 ·have e0:((s.size:Int)==0)=false:=by rw[beq_eq_false_iff_ne];omega
  have h0':0<s.size:=by omega
  clear h0
  by_cases h12:12<s.size
  ·have e12:decide (12<(s.size:Int))=true:=by simp;omega
   have:r=false:=by rw[HR.out];simp[Lh.isNm];omega
   subst this
   go_enter Tryz.func75,Tryz.ntmps75
   go_wp2
   go_ret
   exact⟨rfl,rfl⟩
  ·have e12:decide (12<(s.size:Int))=false:=by simp;omega
   cases hl:Lh.letter s[0] with
   | false =>
    have:r=false:=by rw[HR.out];simp[Lh.isNm,head_eq s h0',hl]
    subst this
    have HL:Hid _:=hl
    clear hl
    go_enter Tryz.func75,Tryz.ntmps75
    go_wp2_with fail
    refine (letter_any _ _).mono ?_
    rintro e w1 ⟨rfl,rfl⟩
    rw[HL.out]
    go_wp2
    go_ret
    exact⟨rfl,rfl⟩
   | true =>
    have hra:r=s.data.toList.all Lh.okc:=by
     rw[HR.out];simp[Lh.isNm,head_eq s h0',hl];omega
    have HA:Hid _:=hra
    have HL:Hid _:=hl
    clear hra hl HR
    go_enter Tryz.func75,Tryz.ntmps75
    go_wp2_with fail
    refine (letter_any _ _).mono ?_
    rintro e w1 ⟨rfl,rfl⟩
    rw[HL.out]
    go_wp2_with fail
    go_loopw [20] (fun i W=>W=w1∧∃k:Nat,k≤s.size∧i=.int .i64 k∧(s.data.toList.take k).all Lh.okc=true) (fun i _=>s.size - (intOf i).toNat)
    case atStart=>exact⟨rfl,0,Nat.zero_le _,rfl,rfl⟩
    case round =>
     obtain⟨rfl,k,hk,rfl,hall⟩:=hrel
     have HP:Hid _:=hall
     clear hall
     by_cases hlt:k<s.size
     ·have HT:Hid _:=all_take s k hlt
      have HF:Hid (Lh.okc s[k]=false→s.data.toList.all Lh.okc=false):=all_take_false s k hlt
      cases h1:Lh.letter s[k] with
      | true =>
       have HO:Hid _:=(by simp[Lh.okc,h1]:Lh.okc s[k]=true)
       have H1:Hid _:=h1
       clear h1
       go_wp2_with fail
       refine (letter_any _ _).mono ?_
       rintro e w2 ⟨rfl,rfl⟩
       rw[H1.out]
       go_wp2
       exact⟨⟨by trivial,k+1,by omega,by go_num,by rw[HT.out,HP.out,HO.out];rfl⟩,by simp[intOf];omega⟩
      | false =>
       cases h2:Lh.digit s[k] with
       | true =>
        have HO:Hid _:=(by simp[Lh.okc,h2]:Lh.okc s[k]=true)
        have H1:Hid _:=h1
        have H2:Hid _:=h2
        clear h1 h2
        go_wp2_with fail
        refine (letter_any _ _).mono ?_
        rintro e w2 ⟨rfl,rfl⟩
        rw[H1.out]
        go_wp2_with fail
        refine (digit_any _ _).mono ?_
        rintro e w3 ⟨rfl,rfl⟩
        rw[H2.out]
        go_wp2
        exact⟨⟨by trivial,k+1,by omega,by go_num,by rw[HT.out,HP.out,HO.out];rfl⟩,by simp[intOf];omega⟩
       | false =>
        cases h3:((s[k].toNat:Int)==45) with
        | true =>
         have HO:Hid _:=(by simp only[Lh.okc,h3,Bool.or_true]:Lh.okc s[k]=true)
         have hne:((s[k].toNat:Int) != 45)=false:=by rw[bne,h3];rfl
         have H1:Hid _:=h1
         have H2:Hid _:=h2
         clear h1 h2 h3
         go_wp2_with fail
         refine (letter_any _ _).mono ?_
         rintro e w2 ⟨rfl,rfl⟩
         rw[H1.out]
         go_wp2_with fail
         refine (digit_any _ _).mono ?_
         rintro e w3 ⟨rfl,rfl⟩
         rw[H2.out]
         go_wp2
         exact⟨⟨by trivial,k+1,by omega,by go_num,by rw[HT.out,HP.out,HO.out];rfl⟩,by simp[intOf];omega⟩
        | false =>
         have HO:Hid _:=(by simp only[Lh.okc,h1,h2,h3];rfl:Lh.okc s[k]=false)
         have hne:((s[k].toNat:Int) != 45)=true:=by rw[bne,h3];rfl
         have H1:Hid _:=h1
         have H2:Hid _:=h2
         clear h1 h2 h3
         go_wp2_with fail
         refine (letter_any _ _).mono ?_
         rintro e w2 ⟨rfl,rfl⟩
         rw[H1.out]
         go_wp2_with fail
         refine (digit_any _ _).mono ?_
         rintro e w3 ⟨rfl,rfl⟩
         rw[H2.out]
         go_wp2
         go_ret
         refine⟨ret_bool ?_,rfl⟩
         rw[HA.out,HF.out HO.out]
     ·go_wp2
      go_ret
      refine⟨ret_bool ?_,rfl⟩
      rw[HA.out,←HP.out,List.take_of_length_le (by simp;omega)]
theorem head_false (s:ByteArray)(h:0<s.size)(hc:Lh.letter s[0]=false):Lh.isNm s=false:=by simp[Lh.isNm,head_eq s h,hc]
theorem all_false (s:ByteArray)(k:Nat)(h:k<s.size)(hc:Lh.okc s[k]=false):Lh.isNm s=false:=by simp only[Lh.isNm,all_take_false s k h hc,Bool.and_false]
theorem isNm_true (s:ByteArray)(h:0<s.size)(h12:¬12<s.size)(hl:Lh.letter s[0]=true)(ha:s.data.toList.all Lh.okc=true):Lh.isNm s=true:=by
 simp only[Lh.isNm,head_eq s h,hl,ha,Bool.and_true];simp;omega
theorem refName_any (s:ByteArray)(w:World)(hs:s.size≤1000000) :
  Calls Tryz.prog 46 #[.string s] w fun e w'=>e=.returned (.bool (Lh.isNm s))∧w'=w:=by
 obtain⟨r,hr⟩:∃r,r=Lh.isNm s:=⟨_,rfl⟩
 rw[←hr]
 have HR:Hid _:=hr
 clear hr
 by_cases h0:s.size<1
 ·have e0:decide ((s.size:Int)<1)=true:=by simp;omega
  have:r=false:=by rw[HR.out];simp[Lh.isNm];omega
  subst this
  clear h0
  go_enter Tryz.func46,Tryz.ntmps46
  go_wp2
  go_ret
  exact⟨rfl,rfl⟩
 ·have e0:decide ((s.size:Int)<1)=false:=by simp;omega
  by_cases h12:12<s.size
  ·have e12:decide (12<(s.size:Int))=true:=by simp;omega
   have:r=false:=by rw[HR.out];simp[Lh.isNm];omega
   subst this
   go_enter Tryz.func46,Tryz.ntmps46
   go_wp2
   go_ret
   exact⟨rfl,rfl⟩
  ·have e12:decide (12<(s.size:Int))=false:=by simp;omega
   have h0':0<s.size:=by omega
   clear h0
   go_enter Tryz.func46,Tryz.ntmps46
   go_wp2
   go_loop [3] (fun i=>∃k:Nat,k≤s.size∧i=.int .i64 k∧(s.data.toList.take k).all Lh.okc=true∧(0<k→Lh.letter s[0]=true)) (fun i=>s.size - (intOf i).toNat)
   case atStart=>exact⟨0,Nat.zero_le _,rfl,rfl,fun h=>absurd h (by decide)⟩
   case round =>
    obtain⟨k,hk,rfl,hall,hlet⟩:=hrel
    have HP:Hid _:=hall
    have HQ:Hid _:=hlet
    clear hall hlet
    by_cases hlt:k<s.size
    ·have HT:Hid _:=all_take s k hlt
     obtain⟨c,hc⟩:∃c,c=s[k]:=⟨_,rfl⟩
     have HC:Hid _:=hc
     by_cases ha:97≤(s[k].toNat:Int)∧(s[k].toNat:Int)≤122
     ·have hl1:Lh.letter s[k]=true:=by simp[Lh.letter,ha.1,ha.2]
      have HO:Hid _:=(by simp[Lh.okc,hl1]:Lh.okc s[k]=true)
      have HK:Hid (0<k+1→Lh.letter s[0]=true):=fun _=>by
       rcases Nat.eq_zero_or_pos k with h|h
       ·subst h;exact hl1
       ·exact HQ.out h
      obtain⟨ha1,ha2⟩:=ha
      clear hl1 hc
      go_wp2
      go_round
      case rel=>exact⟨k+1,by omega,by go_num,by rw[HT.out,HP.out,HO.out];rfl,HK.out⟩
      case measure=>simp[intOf];omega
     ·rcases (by omega:122<(s[k].toNat:Int)∨(48≤(s[k].toNat:Int)∧(s[k].toNat:Int)≤57)∨(s[k].toNat:Int)=45∨((s[k].toNat:Int)<48∧(s[k].toNat:Int)≠45)∨(57<(s[k].toNat:Int)∧(s[k].toNat:Int)<97)) with h|⟨h,h'⟩|h|⟨h,h'⟩|⟨h,h'⟩
      ·have hnl:Lh.letter s[k]=false:=by simp[Lh.letter];omega
       have hd0:decide (97≤(s[k].toNat:Int))=true:=by simp;omega
       have hd1:decide ((s[k].toNat:Int)≤122)=false:=by simp;omega
       have hd2:decide (48≤(s[k].toNat:Int))=true:=by simp;omega
       have hd3:decide ((s[k].toNat:Int)≤57)=false:=by simp;omega
       have heq:((s[k].toNat:Int)==45)=false:=by rw[beq_eq_false_iff_ne];omega
       clear ha
       have hnd:Lh.digit s[k]=false:=by simp[Lh.digit];omega
       have HB:Hid (Lh.isNm s=false):=all_false s k hlt (by simp only[Lh.okc,hnl,heq,hnd,Bool.or_false])
       clear hnl hc hnd
       go_wp2
       all_goals (go_ret;exact⟨ret_bool (by rw[HR.out,HB.out]),rfl⟩)
      ·have hnl:Lh.letter s[k]=false:=by simp[Lh.letter];omega
       have hd0:decide (97≤(s[k].toNat:Int))=false:=by simp;omega
       have hd2:decide (48≤(s[k].toNat:Int))=true:=by simp;omega
       have hd3:decide ((s[k].toNat:Int)≤57)=true:=by simp;omega
       clear ha
       have HO:Hid _:=(by simp[Lh.okc,Lh.digit];omega:Lh.okc s[k]=true)
       by_cases hk0:k=0
       ·have HB:Hid (Lh.isNm s=false):=head_false s h0' (by have e:=hk0;subst e;exact hnl)
        have ek:((k:Int)==0)=true:=by simp[hk0]
        clear hk0 hnl hc
        go_wp2
        go_ret
        exact⟨ret_bool (by rw[HR.out,HB.out]),rfl⟩
       ·have ek:((k:Int)==0)=false:=by rw[beq_eq_false_iff_ne];omega
        have HK:Hid (Lh.letter s[0]=true):=HQ.out (by omega)
        clear hk0 hnl hc
        go_wp2
        go_round
        case rel=>exact⟨k+1,by omega,by go_num,by rw[HT.out,HP.out,HO.out];rfl,fun _=>HK.out⟩
        case measure=>simp[intOf];omega
      ·have hnl:Lh.letter s[k]=false:=by simp[Lh.letter];omega
       have hd0:decide (97≤(s[k].toNat:Int))=false:=by simp;omega
       have hd2:decide (48≤(s[k].toNat:Int))=false:=by simp;omega
       have heq:((s[k].toNat:Int)==45)=true:=by rw[beq_iff_eq];exact h
       clear ha h
       have HO:Hid _:=(by simp only[Lh.okc,heq,Bool.or_true]:Lh.okc s[k]=true)
       by_cases hk0:k=0
       ·have HB:Hid (Lh.isNm s=false):=head_false s h0' (by have e:=hk0;subst e;exact hnl)
        have ek:((k:Int)==0)=true:=by simp[hk0]
        clear hk0 hnl hc
        go_wp2
        go_ret
        exact⟨ret_bool (by rw[HR.out,HB.out]),rfl⟩
       ·have ek:((k:Int)==0)=false:=by rw[beq_eq_false_iff_ne];omega
        have HK:Hid (Lh.letter s[0]=true):=HQ.out (by omega)
        clear hk0 hnl hc
        go_wp2
        go_round
        case rel=>exact⟨k+1,by omega,by go_num,by rw[HT.out,HP.out,HO.out];rfl,fun _=>HK.out⟩
        case measure=>simp[intOf];omega
      ·have hnl:Lh.letter s[k]=false:=by simp[Lh.letter];omega
       have hd0:decide (97≤(s[k].toNat:Int))=false:=by simp;omega
       have hd2:decide (48≤(s[k].toNat:Int))=false:=by simp;omega
       have heq:((s[k].toNat:Int)==45)=false:=by rw[beq_eq_false_iff_ne];omega
       clear ha
       have hnd:Lh.digit s[k]=false:=by simp[Lh.digit];omega
       have HB:Hid (Lh.isNm s=false):=all_false s k hlt (by simp only[Lh.okc,hnl,heq,hnd,Bool.or_false])
       clear hnl hc hnd
       go_wp2
       all_goals (go_ret;exact⟨ret_bool (by rw[HR.out,HB.out]),rfl⟩)
      ·have hnl:Lh.letter s[k]=false:=by simp[Lh.letter];omega
       have hd0:decide (97≤(s[k].toNat:Int))=false:=by simp;omega
       have hd2:decide (48≤(s[k].toNat:Int))=true:=by simp;omega
       have hd3:decide ((s[k].toNat:Int)≤57)=false:=by simp;omega
       have heq:((s[k].toNat:Int)==45)=false:=by rw[beq_eq_false_iff_ne];omega
       clear ha
       have hnd:Lh.digit s[k]=false:=by simp[Lh.digit];omega
       have HB:Hid (Lh.isNm s=false):=all_false s k hlt (by simp only[Lh.okc,hnl,heq,hnd,Bool.or_false])
       clear hnl hc hnd
       go_wp2
       all_goals (go_ret;exact⟨ret_bool (by rw[HR.out,HB.out]),rfl⟩)
    ·go_wp2
     go_ret
     refine⟨ret_bool ?_,rfl⟩
     rw[HR.out]
     exact (isNm_true s h0' h12 (HQ.out (by omega)) (by have:=HP.out;rwa [List.take_of_length_le (by simp;omega)] at this)).symm
namespace Lh
def mem (s:ByteArray)(xs:List ByteArray):Bool:=xs.any fun x=>decide (x=s)
theorem mem_true {s:ByteArray}{xs:List ByteArray}(h:s∈xs):mem s xs=true:=by
 unfold mem;rw[List.any_eq_true];exact⟨s,h,by simp⟩
theorem mem_false {s:ByteArray}{xs:List ByteArray}(h:¬s∈xs):mem s xs=false:=by
 unfold mem;rw[List.any_eq_false];intro x hx;simp only[decide_eq_true_eq];intro e;subst e;exact h hx
end Lh
def ErrIs (a:Nat→Addr)(W:World)(c:Nat)(pl:Int)(v:Value):Prop :=
 (c=0∧pl = -1∧v=.nilIface) ∨
 (∃i,i<9∧c=i+1∧((pl = -1∧v=.iface 179 (.pointer (some (a i)))) ∨
  ∃b,v=.iface 66 (.pointer (some ⟨b,0,none⟩))∧W.cell? ⟨b,0,none⟩=some (.int .i64 pl)∧W.cell? ⟨b,1,none⟩=some (.iface 179 (.pointer (some (a i))))))
theorem ErrIs.later {a:Nat→Addr}{W W':World}{c:Nat}{pl:Int}{v:Value}(h:ErrIs a W c pl v)(hb:Below W.heap.size W W'):ErrIs a W' c pl v:=by
 rcases h with h|⟨i,hi,hc,h|⟨b,hv,h0,h1⟩⟩
 ·exact Or.inl h
 ·exact Or.inr ⟨i,hi,hc,Or.inl h⟩
 ·exact Or.inr ⟨i,hi,hc,Or.inr ⟨b,hv,below_cell hb h0,below_cell hb h1⟩⟩
theorem code_is {a:Nat→Addr}{W:World}{c:Nat}{pl:Int}{v:Value}(he:Errs a W)(h:ErrIs a W c pl v) :
  Calls Tryz.prog 26 #[v] W fun e w'=>e=.returned (.tuple #[.int .i64 c,.int .i64 pl])∧Below W.heap.size W w':=by
 rcases h with⟨rfl,rfl,rfl⟩|⟨i,hi,rfl,⟨rfl,rfl⟩|⟨b,rfl,h0,h1⟩⟩
 ·exact (code_nil W).mono fun e w' ⟨h1,h2⟩=>⟨h1,by rw[h2];exact Below.refl _ _⟩
 ·have:=code_sent a i hi W he
  rw[codeNum_lt hi] at this
  exact this
 ·have:=code_fault a i hi pl b W he h0 h1
  rw[codeNum_lt hi] at this
  exact this
/- the first place of a text in a list -/
theorem contains_core (b o c:Nat)(xs:List ByteArray)(s:ByteArray)(w:World)(hx:∀k (h:k<xs.length),w.cell? ⟨b,o+k,none⟩=some (.string xs[k]))(hm:xs.length<1000000) :
  Calls Tryz.prog 89 #[.slice (some ⟨b,o,none⟩) xs.length c,.string s] w fun e w'=>(∃j:Int,e=.returned (.int .i64 j)∧decide (0≤j)=Lh.mem s xs)∧w'=w:=by
 have HX:Hid _:=hx
 clear hx
 go_enter Tryz.func89,Tryz.ntmps89
 go_wp2
 go_loop [8] (fun t=>∃k:Nat,k≤xs.length∧t=.int .i64 k∧∀j (h:j<xs.length),j<k→xs[j]≠s) (fun t=>xs.length - (intOf t).toNat)
 case atStart=>exact⟨0,Nat.zero_le _,rfl,fun j _ h=>absurd h (by omega)⟩
 case round =>
  obtain⟨k,hk,rfl,hpre⟩:=hrel
  have HP:Hid _:=hpre
  clear hpre
  by_cases hlt:k<xs.length
  ·have cx:=HX.out k hlt
   generalize hxk:xs[k]=xk at *
   have HXK:Hid _:=hxk
   clear hxk
   by_cases heq:s=xk
   ·have hne:(s.toList==xk.toList)=true:=bytes_same heq
    have HE:Hid _:=heq
    clear heq
    go_wp2
    go_ret
    refine⟨⟨(k:Int),rfl,?_⟩,rfl⟩
    rw[decide_eq_true (by omega),Lh.mem_true]
    rw[HE.out,←HXK.out]
    exact List.getElem_mem _
   ·have hne:(s.toList==xk.toList)=false:=bytes_parts heq
    have HE:Hid _:=heq
    clear heq
    go_wp2
    go_round
    case rel =>
     refine⟨k+1,by omega,by go_num,fun j h hj=>?_⟩
     by_cases hjk:j=k
     ·subst hjk;rw[HXK.out];exact fun e=>HE.out e.symm
     ·exact HP.out j h (by omega)
    case measure=>simp[intOf];omega
  ·go_wp2
   go_ret
   refine⟨⟨-1,rfl,?_⟩,rfl⟩
   rw[decide_eq_false (by omega),Lh.mem_false]
   intro hm
   obtain⟨j,hj,e⟩:=List.getElem_of_mem hm
   exact HP.out j hj (by omega) e
theorem index_zero (p:Option Addr)(c:Nat)(s:ByteArray)(w:World) :
  Calls Tryz.prog 89 #[.slice p 0 c,.string s] w fun e w'=>e=.returned (.int .i64 (-1))∧w'=w:=by
 go_enter Tryz.func89,Tryz.ntmps89
 go_wp2
 refine wp_loop_rounds 1 ?_
 rw[rounds_succ]
 go_wp2
 go_ret
 exact⟨rfl,rfl⟩
theorem contains_any (v:Value)(xs:List ByteArray)(s:ByteArray)(w:World)(hv:Strs w v xs)(hm:xs.length<1000000) :
  Calls Tryz.prog 76 #[v,.string s] w fun e w'=>e=.returned (.bool (Lh.mem s xs))∧w'=w:=by
 have key:Calls Tryz.prog 89 #[v,.string s] w fun e w'=>(∃j:Int,e=.returned (.int .i64 j)∧decide (0≤j)=Lh.mem s xs)∧w'=w:=by
  rcases hv with⟨rfl,p,c,rfl⟩|⟨b,o,c,rfl,_,hc⟩
  ·exact (index_zero p c s w).mono fun e w' ⟨h1,h2⟩=>⟨⟨-1,h1,rfl⟩,h2⟩
  ·exact contains_core b o c xs s w hc hm
 clear hv
 go_enter Tryz.func76,Tryz.ntmps76
 go_wp2_with fail
 refine key.mono ?_
 rintro e w1 ⟨⟨j,rfl,hj⟩,rfl⟩
 have HJ:Hid _:=hj
 clear hj key
 go_wp2
 go_ret
 exact⟨ret_bool HJ.out,rfl⟩
theorem refIndex_any (b o c:Nat)(xs:List ByteArray)(i:Nat)(hi:i<xs.length)(w:World)(hx:∀k (h:k<xs.length),w.cell? ⟨b,o+k,none⟩=some (.string xs[k]))(hm:xs.length<1000000) :
  Calls Tryz.prog 47 #[.slice (some ⟨b,o,none⟩) xs.length c,.string xs[i]] w fun e w'=>(∃j:Int,e=.returned (.int .i64 j)∧decide (j<(i:Int))=Lh.mem xs[i] (xs.take i))∧w'=w:=by
 have HX:Hid _:=hx
 clear hx
 obtain⟨s,hs⟩:∃s,s=xs[i]:=⟨_,rfl⟩
 rw[←hs]
 have HS:Hid _:=hs
 clear hs
 go_enter Tryz.func47,Tryz.ntmps47
 go_wp2
 go_loop [5] (fun t=>∃k:Nat,k≤i∧t=.int .i64 k∧∀j (h:j<xs.length),j<k→xs[j]≠s) (fun t=>xs.length - (intOf t).toNat)
 case atStart=>exact⟨0,Nat.zero_le _,rfl,fun j _ h=>absurd h (by omega)⟩
 case round =>
  obtain⟨k,hk,rfl,hpre⟩:=hrel
  have HP:Hid _:=hpre
  clear hpre
  have hlt:k<xs.length:=by omega
  have cx:=HX.out k hlt
  generalize hxk:xs[k]=xk at *
  have HXK:Hid _:=hxk
  clear hxk
  by_cases heq:xk=s
  ·have hne:(xk.toList==s.toList)=true:=bytes_same heq
   have HE:Hid _:=heq
   clear heq
   go_wp2
   go_ret
   refine⟨⟨(k:Int),rfl,?_⟩,rfl⟩
   by_cases hki:k<i
   ·rw[decide_eq_true (by omega),Lh.mem_true]
    rw[List.mem_take_iff_getElem]
    exact⟨k,by omega,by rw[HXK.out,HE.out]⟩
   ·rw[decide_eq_false (by omega),Lh.mem_false]
    intro hmem
    rw[List.mem_take_iff_getElem] at hmem
    obtain⟨j,hj,e⟩:=hmem
    exact HP.out j (by omega) (by omega) e
  ·have hne:(xk.toList==s.toList)=false:=bytes_parts heq
   have hki:k<i:=by
    rcases Nat.lt_or_ge k i with h|h
    ·exact h
    ·exfalso
     have:k=i:=by omega
     subst this
     exact heq (by rw[←HXK.out,HS.out])
   have HE:Hid _:=heq
   clear heq
   go_wp2
   go_round
   case rel =>
    refine⟨k+1,by omega,by go_num,fun j h hj=>?_⟩
    by_cases hjk:j=k
    ·subst hjk;rw[HXK.out];exact HE.out
    ·exact HP.out j h (by omega)
   case measure=>simp[intOf];omega
def Good (xs:List ByteArray)(j:Nat)(h:j<xs.length):Prop:=Lh.isNm xs[j]=true∧Lh.mem xs[j] (xs.take j)=false
def IsFault (xs:List ByteArray)(c:Nat)(pl:Int):Prop :=
 (12<xs.length∧c=2∧pl = -1) ∨
 (¬12<xs.length∧∃i,∃h:i<xs.length,(∀j,j<i→∀hj:j<xs.length,Good xs j hj)∧pl=i∧((Lh.isNm xs[i]=false∧c=4)∨(Lh.isNm xs[i]=true∧Lh.mem xs[i] (xs.take i)=true∧c=6))) ∨
 (¬12<xs.length∧(∀j,∀hj:j<xs.length,Good xs j hj)∧c=0∧pl = -1)
theorem fault_scan (xs:List ByteArray):∀n,n≤xs.length→(∀j,j<n→∀hj:j<xs.length,Good xs j hj)∨∃i,∃h:i<xs.length,(∀j,j<i→∀hj:j<xs.length,Good xs j hj)∧¬Good xs i h
 | 0,_=>Or.inl fun j h=>absurd h (by omega)
 | n+1,hn=>by
  rcases fault_scan xs n (by omega) with h|h
  ·by_cases hg:Good xs n (by omega)
   ·refine Or.inl fun j hj hl=>?_
    by_cases e:j=n
    ·subst e;exact hg
    ·exact h j (by omega) hl
   ·exact Or.inr ⟨n,by omega,h,hg⟩
  ·exact Or.inr h
theorem isFault_ex (xs:List ByteArray):∃c pl,IsFault xs c pl:=by
 by_cases h12:12<xs.length
 ·exact⟨2,-1,Or.inl ⟨h12,rfl,rfl⟩⟩
 ·rcases fault_scan xs xs.length (Nat.le_refl _) with h|⟨i,hi,h,hg⟩
  ·exact⟨0,-1,Or.inr (Or.inr ⟨h12,fun j hj=>h j hj hj,rfl,rfl⟩)⟩
  ·cases hn:Lh.isNm xs[i] with
   | false=>exact⟨4,i,Or.inr (Or.inl ⟨h12,i,hi,h,rfl,Or.inl ⟨hn,rfl⟩⟩)⟩
   | true =>
    cases hm:Lh.mem xs[i] (xs.take i) with
    | true=>exact⟨6,i,Or.inr (Or.inl ⟨h12,i,hi,h,rfl,Or.inr ⟨hn,hm,rfl⟩⟩)⟩
    | false=>exact absurd ⟨hn,hm⟩ hg
/- what the loops find -/
theorem fault_name {xs:List ByteArray}{c:Nat}{pl:Int}(hf:IsFault xs c pl)(h12:¬12<xs.length){k:Nat}(hk:k<xs.length)(hp:∀j,j<k→∀hj:j<xs.length,Good xs j hj)(hn:Lh.isNm xs[k]=false):c=4∧pl=k:=by
 rcases hf with⟨h,_⟩|⟨_,i,hi,h,e,hc⟩|⟨_,h,_⟩
 ·exact absurd h h12
 ·have hik:i=k:=by
   rcases Nat.lt_trichotomy i k with hlt|rfl|hgt
   ·obtain⟨g1,g2⟩:=hp i hlt hi
    rcases hc with⟨hc,_⟩|⟨_,hc,_⟩
    ·rw[g1] at hc;cases hc
    ·rw[g2] at hc;cases hc
   ·rfl
   ·rw[(h k hgt hk).1] at hn;cases hn
  subst hik
  rcases hc with⟨_,hc⟩|⟨hc,_⟩
  ·exact⟨hc,e⟩
  ·rw[hn] at hc;cases hc
 ·rw[(h k hk).1] at hn;cases hn
theorem fault_exist {xs:List ByteArray}{c:Nat}{pl:Int}(hf:IsFault xs c pl)(h12:¬12<xs.length){k:Nat}(hk:k<xs.length)(hp:∀j,j<k→∀hj:j<xs.length,Good xs j hj)(hn:Lh.isNm xs[k]=true)(hm:Lh.mem xs[k] (xs.take k)=true):c=6∧pl=k:=by
 rcases hf with⟨h,_⟩|⟨_,i,hi,h,e,hc⟩|⟨_,h,_⟩
 ·exact absurd h h12
 ·have hik:i=k:=by
   rcases Nat.lt_trichotomy i k with hlt|rfl|hgt
   ·obtain⟨g1,g2⟩:=hp i hlt hi
    rcases hc with⟨hc,_⟩|⟨_,hc,_⟩
    ·rw[g1] at hc;cases hc
    ·rw[g2] at hc;cases hc
   ·rfl
   ·rw[(h k hgt hk).2] at hm;cases hm
  subst hik
  rcases hc with⟨hc,_⟩|⟨_,_,hc⟩
  ·rw[hn] at hc;cases hc
  ·exact⟨hc,e⟩
 ·rw[(h k hk).2] at hm;cases hm
theorem fault_none {xs:List ByteArray}{c:Nat}{pl:Int}(hf:IsFault xs c pl)(h12:¬12<xs.length)(hp:∀j,∀hj:j<xs.length,Good xs j hj):c=0∧pl = -1:=by
 rcases hf with⟨h,_⟩|⟨_,i,hi,h,e,hc⟩|⟨_,_,h⟩
 ·exact absurd h h12
 ·obtain⟨g1,g2⟩:=hp i hi
  rcases hc with⟨hc,_⟩|⟨_,hc,_⟩
  ·rw[g1] at hc;cases hc
  ·rw[g2] at hc;cases hc
 ·exact h
theorem fault_long {xs:List ByteArray}{c:Nat}{pl:Int}(hf:IsFault xs c pl)(h12:12<xs.length):c=2∧pl = -1:=by
 rcases hf with⟨_,h⟩|⟨h,_⟩|⟨h,_⟩
 ·exact h
 ·exact absurd h12 h
 ·exact absurd h12 h
theorem strs_take {w:World}{b o c:Nat}{xs:List ByteArray}(hcap:xs.length≤c)(hx:∀k (h:k<xs.length),w.cell? ⟨b,o+k,none⟩=some (.string xs[k]))(k:Nat)(hk:k≤xs.length):Strs w (.slice (some ⟨b,o,none⟩) k c) (xs.take k):=by
 have hl:(xs.take k).length=k:=by simp;omega
 refine Or.inr ⟨b,o,c,by rw[hl],by omega,fun j hj=>?_⟩
 rw[hx j (by omega)]
 simp
theorem check_core (a:Nat→Addr)(b o cap:Nat)(xs:List ByteArray)(w:World)(c:Nat)(pl:Int)(he:Errs a w)(hcap:xs.length≤cap)(hx:∀k (h:k<xs.length),w.cell? ⟨b,o+k,none⟩=some (.string xs[k]))
  (hf:IsFault xs c pl) (h12:¬12<xs.length) (hs:∀k (h:k<xs.length),(xs[k]).size≤1000000) :
  Calls Tryz.prog 48 #[.slice (some ⟨b,o,none⟩) xs.length cap] w fun e w'=>∃ev,e=.returned ev∧ErrIs a w' c pl ev∧Below w.heap.size w w':=by
 have HX:Hid _:=hx
 have HF:Hid _:=hf
 have HS:Hid _:=hs
 have e12:decide (12<(xs.length:Int))=false:=by simp;omega
 have s3:=he.s3
 have s5:=he.s5
 clear hx hf hs
 go_enter Tryz.func48,Tryz.ntmps48
 go_wp2
 go_loopw [11] (fun t W=>W=w∧∃k:Nat,k≤xs.length∧t=.int .i64 k∧∀j,j<k→∀hj:j<xs.length,Good xs j hj) (fun t _=>xs.length - (intOf t).toNat)
 case atStart=>exact⟨rfl,0,Nat.zero_le _,rfl,fun j h=>absurd h (by omega)⟩
 case round =>
  obtain⟨rfl,k,hk,rfl,hpre⟩:=hrel
  have HP:Hid _:=hpre
  clear hpre
  by_cases hlt:k<xs.length
  ·have cx:=HX.out k hlt
   have hsz:=HS.out k hlt
   cases hn:Lh.isNm xs[k] with
   | false =>
    have HC:Hid _:=fault_name HF.out h12 hlt HP.out hn
    have HN:Hid _:=hn
    clear hn
    go_wp2_with fail
    refine (isName_any _ _ hsz).mono ?_
    rintro e w1 ⟨rfl,rfl⟩
    rw[HN.out]
    go_wp2
    go_ret
    refine⟨_,rfl,Or.inr ⟨3,by decide,HC.out.1,Or.inr ⟨w1.heap.size,rfl,by rw[HC.out.2];simp,by simp⟩⟩,(Below.refl _ _).alloc (Nat.le_refl _) _⟩
   | true =>
    have HN:Hid _:=hn
    have hst:=strs_take hcap HX.out k hk
    have HST:Hid _:=hst
    clear hst
    cases hme:Lh.mem xs[k] (xs.take k) with
    | true =>
     have HC:Hid _:=fault_exist HF.out h12 hlt HP.out hn hme
     have HM:Hid _:=hme
     clear hn hme
     go_wp2_with fail
     refine (isName_any _ _ hsz).mono ?_
     rintro e w1 ⟨rfl,rfl⟩
     rw[HN.out]
     go_wp2_with fail
     refine (contains_any _ (xs.take k) _ _ HST.out (by simp;omega)).mono ?_
     rintro e w2 ⟨rfl,rfl⟩
     rw[HM.out]
     go_wp2
     go_ret
     refine⟨_,rfl,Or.inr ⟨5,by decide,HC.out.1,Or.inr ⟨w2.heap.size,rfl,by rw[HC.out.2];simp,by simp⟩⟩,(Below.refl _ _).alloc (Nat.le_refl _) _⟩
    | false =>
     have HM:Hid _:=hme
     clear hn hme
     go_wp2_with fail
     refine (isName_any _ _ hsz).mono ?_
     rintro e w1 ⟨rfl,rfl⟩
     rw[HN.out]
     go_wp2_with fail
     refine (contains_any _ (xs.take k) _ _ HST.out (by simp;omega)).mono ?_
     rintro e w2 ⟨rfl,rfl⟩
     rw[HM.out]
     go_wp2
     refine⟨⟨by trivial,k+1,by omega,by go_num,fun j hj hl=>?_⟩,by simp[intOf];omega⟩
     by_cases e:j=k
     ·subst e;exact⟨HN.out,HM.out⟩
     ·exact HP.out j (by omega) hl
  ·have HC:Hid _:=fault_none HF.out h12 (fun j hj=>HP.out j (by omega) hj)
   go_wp2
   go_ret
   refine⟨_,rfl,Or.inl ⟨HC.out.1,HC.out.2,rfl⟩,Below.refl _ _⟩
theorem check_long (a:Nat→Addr)(p:Option Addr)(n cap:Nat)(w:World)(he:Errs a w)(h12:12<n)(_hm:n<1000000) :
  Calls Tryz.prog 48 #[.slice p n cap] w fun e w'=>e=.returned (.iface 179 (.pointer (some (a 1))))∧w'=w:=by
 have e12:decide (12<(n:Int))=true:=by simp;omega
 have s1:=he.s1
 go_enter Tryz.func48,Tryz.ntmps48
 go_wp2
 go_ret
 exact⟨rfl,rfl⟩
theorem check_zero (p:Option Addr)(cap:Nat)(w:World) :
  Calls Tryz.prog 48 #[.slice p 0 cap] w fun e w'=>e=.returned .nilIface∧w'=w:=by
 go_enter Tryz.func48,Tryz.ntmps48
 go_wp2
 refine wp_loop_rounds 1 ?_
 rw[rounds_succ]
 go_wp2
 go_ret
 exact⟨rfl,rfl⟩
theorem check_any (a:Nat→Addr)(v:Value)(xs:List ByteArray)(w:World)(c:Nat)(pl:Int)(he:Errs a w)(hv:Strs w v xs)(hf:IsFault xs c pl)(hs:∀k (h:k<xs.length),(xs[k]).size≤1000000)(hm:xs.length<1000000) :
  Calls Tryz.prog 48 #[v] w fun e w'=>∃ev,e=.returned ev∧ErrIs a w' c pl ev∧Below w.heap.size w w':=by
 by_cases h12:12<xs.length
 ·obtain⟨rfl,rfl⟩:=fault_long hf h12
  obtain⟨p,cap,rfl⟩:=hv.slice
  exact (check_long a p _ cap w he h12 hm).mono fun e w' ⟨h1,h2⟩=>⟨_,h1,Or.inr ⟨1,by decide,rfl,Or.inl ⟨rfl,rfl⟩⟩,by rw[h2];exact Below.refl _ _⟩
 ·rcases hv with⟨rfl,p,cap,rfl⟩|⟨b,o,cap,rfl,hcap,hx⟩
  ·obtain⟨rfl,rfl⟩:=fault_none hf h12 (fun j hj=>absurd hj (by simp))
   exact (check_zero p cap w).mono fun e w' ⟨h1,h2⟩=>⟨_,h1,Or.inl ⟨rfl,rfl,rfl⟩,by rw[h2];exact Below.refl _ _⟩
  ·exact check_core a b o cap xs w c pl he hcap hx hf h12 hs
theorem bare_any (n:Int)(w:World):Calls Tryz.prog 21 #[.int .i64 n] w fun e w'=>e=.returned (.agg #[.int .i64 n,.int .i64 (-1)])∧Below w.heap.size w w':=by
 go_enter Tryz.func21,Tryz.ntmps21
 go_wp2
 exact bodyPost_ret (v:=.agg #[.int .i64 n,.int .i64 (-1)]) (by simp[results,Tryz.results21,go_sem]) rfl ⟨rfl,(Below.refl _ _).alloc (Nat.le_refl _) _⟩
theorem fine_any (w:World):Calls Tryz.prog 22 #[] w fun e w'=>e=.returned (.agg #[.int .i64 0,.int .i64 (-1)])∧Below w.heap.size w w':=by
 go_enter Tryz.func22,Tryz.ntmps22
 go_wp2
 exact bodyPost_ret (v:=.agg #[.int .i64 0,.int .i64 (-1)]) (by simp[results,Tryz.results22,go_sem]) rfl ⟨rfl,(Below.refl _ _).alloc (Nat.le_refl _) _⟩
theorem hfault_core (b o cap:Nat)(xs:List ByteArray)(w:World)(c:Nat)(pl:Int)(hx:∀k (h:k<xs.length),w.cell? ⟨b,o+k,none⟩=some (.string xs[k]))
  (hf:IsFault xs c pl) (h12:¬12<xs.length) (hs:∀k (h:k<xs.length),(xs[k]).size≤1000000) :
  Calls Tryz.prog 33 #[.slice (some ⟨b,o,none⟩) xs.length cap] w fun e w'=>e=.returned (.agg #[.int .i64 c,.int .i64 pl])∧Below w.heap.size w w':=by
 have HF:Hid _:=hf
 have HS:Hid _:=hs
 have e12:decide (12<(xs.length:Int))=false:=by simp;omega
 have hba:∀q,Below w.heap.size w (w.alloc q):=fun q=>(Below.refl _ _).alloc (Nat.le_refl _) _
 have HX:Hid (∀q k (h:k<xs.length),(w.alloc q).cell? ⟨b,o+k,none⟩=some (.string xs[k])):=fun q k h=>below_cell (hba q) (hx k h)
 clear hx hf hs hba
 go_enter Tryz.func33,Tryz.ntmps33
 go_wp2_with fail
 have hbW:=(Below.refl w.heap.size w).alloc (Nat.le_refl _) (.cells #[.int .i64 0,.int .i64 0] 33)
 have HXW:=HX.out (.cells #[.int .i64 0,.int .i64 0] 33)
 go_loopw [3] (fun t W=>W=w.alloc (.cells #[.int .i64 0,.int .i64 0] 33)∧∃k:Nat,k≤xs.length∧t=.int .i64 k∧∀j,j<k→∀hj:j<xs.length,Good xs j hj) (fun t _=>xs.length - (intOf t).toNat)
 case atStart=>exact⟨rfl,0,Nat.zero_le _,rfl,fun j h=>absurd h (by omega)⟩
 case round =>
  obtain⟨rfl,k,hk,rfl,hpre⟩:=hrel
  have HP:Hid _:=hpre
  clear hpre
  have HXX:Hid _:=HXW
  clear HXW
  by_cases hlt:k<xs.length
  ·have cx:=HXX.out k hlt
   have hsz:=HS.out k hlt
   cases hn:Lh.isNm xs[k] with
   | false =>
    have HC:Hid _:=fault_name HF.out h12 hlt HP.out hn
    have HN:Hid _:=hn
    clear hn
    go_wp2_with fail
    refine (refName_any _ _ hsz).mono ?_
    rintro e w1 ⟨rfl,rfl⟩
    rw[HN.out]
    go_wp2
    exact bodyPost_ret (v:=.agg #[.int .i64 c,.int .i64 pl]) (by rw[HC.out.1,HC.out.2];simp[results,Tryz.results33,go_sem]) rfl ⟨rfl,(Below.refl _ _).alloc (Nat.le_refl _) _⟩
   | true =>
    have HN:Hid _:=hn
    cases hme:Lh.mem xs[k] (xs.take k) with
    | true =>
     have HC:Hid _:=fault_exist HF.out h12 hlt HP.out hn hme
     have HM:Hid _:=hme
     clear hn hme
     go_wp2_with fail
     refine (refName_any _ _ hsz).mono ?_
     rintro e w1 ⟨rfl,rfl⟩
     rw[HN.out]
     go_wp2_with fail
     refine (refIndex_any b o cap xs k hlt _ HXX.out (by omega)).mono ?_
     rintro e w2 ⟨⟨j,rfl,hj⟩,rfl⟩
     have hj':decide (j<(k:Int))=true:=by rw[hj,HM.out]
     clear hj
     go_wp2
     exact bodyPost_ret (v:=.agg #[.int .i64 c,.int .i64 pl]) (by rw[HC.out.1,HC.out.2];simp[results,Tryz.results33,go_sem]) rfl ⟨rfl,(Below.refl _ _).alloc (Nat.le_refl _) _⟩
    | false =>
     have HM:Hid _:=hme
     clear hn hme
     go_wp2_with fail
     refine (refName_any _ _ hsz).mono ?_
     rintro e w1 ⟨rfl,rfl⟩
     rw[HN.out]
     go_wp2_with fail
     refine (refIndex_any b o cap xs k hlt _ HXX.out (by omega)).mono ?_
     rintro e w2 ⟨⟨j,rfl,hj⟩,rfl⟩
     have hj':decide (j<(k:Int))=false:=by rw[hj,HM.out]
     clear hj
     go_wp2
     refine⟨⟨by trivial,k+1,by omega,by go_num,fun j hj hl=>?_⟩,by simp[intOf];omega⟩
     by_cases e:j=k
     ·subst e;exact⟨HN.out,HM.out⟩
     ·exact HP.out j (by omega) hl
  ·have HC:Hid _:=fault_none HF.out h12 (fun j hj=>HP.out j (by omega) hj)
   go_wp2_with fail
   refine (fine_any _).mono ?_
   rintro e w1 ⟨rfl,hb1⟩
   have c0:w1.cell? ⟨w.heap.size,0,none⟩=some (.int .i64 0):=below_cell hb1 (by simp)
   have c1:w1.cell? ⟨w.heap.size,1,none⟩=some (.int .i64 0):=below_cell hb1 (by simp)
   have f0:w1.frozen? ⟨w.heap.size,0,none⟩=false:=by rw[hb1.frozen (by simp)];simp
   have f1:w1.frozen? ⟨w.heap.size,1,none⟩=false:=by rw[hb1.frozen (by simp)];simp
   have hbz:Below w.heap.size w w1:=hbW.trans (hb1.mono (by simp))
   clear hb1 hbW
   go_wp2
   exact bodyPost_ret (v:=.agg #[.int .i64 c,.int .i64 pl]) (by rw[HC.out.1,HC.out.2];simp[results,Tryz.results33,go_sem,c0,c1]) rfl ⟨rfl,(hbz.setCell (Nat.le_refl _) _).setCell (Nat.le_refl _) _⟩
theorem hfault_long (p:Option Addr)(n cap:Nat)(w:World)(h12:12<n)(_hm:n<1000000) :
  Calls Tryz.prog 33 #[.slice p n cap] w fun e w'=>e=.returned (.agg #[.int .i64 2,.int .i64 (-1)])∧Below w.heap.size w w':=by
 have e12:decide (12<(n:Int))=true:=by simp;omega
 have hbW:=(Below.refl w.heap.size w).alloc (Nat.le_refl _) (.cells #[.int .i64 0,.int .i64 0] 33)
 go_enter Tryz.func33,Tryz.ntmps33
 go_wp2_with fail
 refine (bare_any _ _).mono ?_
 rintro e w1 ⟨rfl,hb1⟩
 have c0:w1.cell? ⟨w.heap.size,0,none⟩=some (.int .i64 0):=below_cell hb1 (by simp)
 have c1:w1.cell? ⟨w.heap.size,1,none⟩=some (.int .i64 0):=below_cell hb1 (by simp)
 have f0:w1.frozen? ⟨w.heap.size,0,none⟩=false:=by rw[hb1.frozen (by simp)];simp
 have f1:w1.frozen? ⟨w.heap.size,1,none⟩=false:=by rw[hb1.frozen (by simp)];simp
 have hbz:Below w.heap.size w w1:=hbW.trans (hb1.mono (by simp))
 clear hb1 hbW
 go_wp2
 exact bodyPost_ret (v:=.agg #[.int .i64 2,.int .i64 (-1)]) (by simp[results,Tryz.results33,go_sem,c0,c1]) rfl ⟨rfl,(hbz.setCell (Nat.le_refl _) _).setCell (Nat.le_refl _) _⟩
theorem hfault_zero (p:Option Addr)(cap:Nat)(w:World) :
  Calls Tryz.prog 33 #[.slice p 0 cap] w fun e w'=>e=.returned (.agg #[.int .i64 0,.int .i64 (-1)])∧Below w.heap.size w w':=by
 have hbW:=(Below.refl w.heap.size w).alloc (Nat.le_refl _) (.cells #[.int .i64 0,.int .i64 0] 33)
 go_enter Tryz.func33,Tryz.ntmps33
 go_wp2_with fail
 refine wp_loop_rounds 1 ?_
 rw[rounds_succ]
 go_wp2_with fail
 refine (fine_any _).mono ?_
 rintro e w1 ⟨rfl,hb1⟩
 have c0:w1.cell? ⟨w.heap.size,0,none⟩=some (.int .i64 0):=below_cell hb1 (by simp)
 have c1:w1.cell? ⟨w.heap.size,1,none⟩=some (.int .i64 0):=below_cell hb1 (by simp)
 have f0:w1.frozen? ⟨w.heap.size,0,none⟩=false:=by rw[hb1.frozen (by simp)];simp
 have f1:w1.frozen? ⟨w.heap.size,1,none⟩=false:=by rw[hb1.frozen (by simp)];simp
 have hbz:Below w.heap.size w w1:=hbW.trans (hb1.mono (by simp))
 clear hb1 hbW
 go_wp2
 exact bodyPost_ret (v:=.agg #[.int .i64 0,.int .i64 (-1)]) (by simp[results,Tryz.results33,go_sem,c0,c1]) rfl ⟨rfl,(hbz.setCell (Nat.le_refl _) _).setCell (Nat.le_refl _) _⟩
theorem hfault_any (v:Value)(xs:List ByteArray)(w:World)(c:Nat)(pl:Int)(hv:Strs w v xs)(hf:IsFault xs c pl)(hs:∀k (h:k<xs.length),(xs[k]).size≤1000000)(hm:xs.length<1000000) :
  Calls Tryz.prog 33 #[v] w fun e w'=>e=.returned (.agg #[.int .i64 c,.int .i64 pl])∧Below w.heap.size w w':=by
 by_cases h12:12<xs.length
 ·obtain⟨rfl,rfl⟩:=fault_long hf h12
  obtain⟨p,cap,rfl⟩:=hv.slice
  exact hfault_long p _ cap w h12 hm
 ·rcases hv with⟨rfl,p,cap,rfl⟩|⟨b,o,cap,rfl,hcap,hx⟩
  ·obtain⟨rfl,rfl⟩:=fault_none hf h12 (fun j hj=>absurd hj (by simp))
   exact hfault_zero p cap w
  ·exact hfault_core b o cap xs w c pl hx hf h12 hs
theorem long_core (b o cap:Nat)(xs:List ByteArray)(w:World)(hx:∀k (h:k<xs.length),w.cell? ⟨b,o+k,none⟩=some (.string xs[k]))(hs:∀k (h:k<xs.length),(xs[k]).size≤maxLen)(h30:¬30<xs.length) :
  Calls Tryz.prog 6 #[.slice (some ⟨b,o,none⟩) xs.length cap] w fun e w'=>(e=.returned (.int .i64 1)∨(e=.returned (.int .i64 0)∧∀k (h:k<xs.length),(xs[k]).size≤60))∧w'=w:=by
 have HX:Hid _:=hx
 have HS:Hid _:=hs
 have e30:decide (30<(xs.length:Int))=false:=by simp;omega
 clear hx hs
 go_enter Tryz.func6,Tryz.ntmps6
 go_wp2
 go_loop [3] (fun t=>∃k:Nat,k≤xs.length∧t=.int .i64 k∧∀j (h:j<xs.length),j<k→(xs[j]).size≤60) (fun t=>xs.length - (intOf t).toNat)
 case atStart=>exact⟨0,Nat.zero_le _,rfl,fun j _ h=>absurd h (by omega)⟩
 case round =>
  obtain⟨k,hk,rfl,hpre⟩:=hrel
  have HP:Hid _:=hpre
  clear hpre
  by_cases hlt:k<xs.length
  ·have cx:=HX.out k hlt
   have hsz:=HS.out k hlt
   unfold maxLen at hsz
   by_cases h60:60<(xs[k]).size
   ·have e60:decide (60<((xs[k]).size:Int))=true:=by simp;omega
    go_wp2
    go_ret
    exact⟨Or.inl rfl,rfl⟩
   ·have e60:decide (60<((xs[k]).size:Int))=false:=by simp;omega
    go_wp2
    go_round
    case rel =>
     refine⟨k+1,by omega,by go_num,fun j h hj=>?_⟩
     by_cases e:j=k
     ·subst e;omega
     ·exact HP.out j h (by omega)
    case measure=>simp[intOf];omega
  ·go_wp2
   go_ret
   exact⟨Or.inr ⟨rfl,fun j h=>HP.out j h (by omega)⟩,rfl⟩
theorem long_zero (p:Option Addr)(cap:Nat)(w:World) :
  Calls Tryz.prog 6 #[.slice p 0 cap] w fun e w'=>e=.returned (.int .i64 0)∧w'=w:=by
 go_enter Tryz.func6,Tryz.ntmps6
 go_wp2
 refine wp_loop_rounds 1 ?_
 rw[rounds_succ]
 go_wp2
 go_ret
 exact⟨rfl,rfl⟩
theorem long_long (p:Option Addr)(n cap:Nat)(w:World)(h30:30<n)(hm:n≤maxLen) :
  Calls Tryz.prog 6 #[.slice p n cap] w fun e w'=>e=.returned (.int .i64 1)∧w'=w:=by
 unfold maxLen at hm
 have e30:decide (30<(n:Int))=true:=by simp;omega
 go_enter Tryz.func6,Tryz.ntmps6
 go_wp2
 go_ret
 exact⟨rfl,rfl⟩
theorem long_any (v:Value)(xs:List ByteArray)(w:World)(hv:Strs w v xs)(hs:∀k (h:k<xs.length),(xs[k]).size≤maxLen)(hm:xs.length≤maxLen) :
  Calls Tryz.prog 6 #[v] w fun e w'=>(e=.returned (.int .i64 1)∨(e=.returned (.int .i64 0)∧xs.length≤30∧∀k (h:k<xs.length),(xs[k]).size≤60))∧w'=w:=by
 by_cases h30:30<xs.length
 ·obtain⟨p,cap,rfl⟩:=hv.slice
  exact (long_long p _ cap w h30 hm).mono fun e w' ⟨h1,h2⟩=>⟨Or.inl h1,h2⟩
 ·rcases hv with⟨rfl,p,cap,rfl⟩|⟨b,o,cap,rfl,hcap,hx⟩
  ·exact (long_zero p cap w).mono fun e w' ⟨h1,h2⟩=>⟨Or.inr ⟨h1,by simp,fun k h=>absurd h (by simp)⟩,h2⟩
  ·refine (long_core b o cap xs w hx hs h30).mono fun e w' ⟨h1,h2⟩=>⟨?_,h2⟩
   rcases h1 with h1|⟨h1,h3⟩
   ·exact Or.inl h1
   ·exact Or.inr ⟨h1,by omega,h3⟩
def Strs1 (w:World)(v:Value)(xs:List ByteArray):Prop :=
 (xs=[]∧(v=.slice none 0 0∨∃a c,v=.slice (some a) 0 c))∨∃b o c,v=.slice (some ⟨b,o,none⟩) xs.length c∧xs.length≤c∧∀k (h:k<xs.length),w.cell? ⟨b,o+k,none⟩=some (.string xs[k])
theorem Strs1.strs {w:World}{v:Value}{xs:List ByteArray}(h:Strs1 w v xs):Strs w v xs:=by
 rcases h with⟨rfl,rfl|⟨a,c,rfl⟩⟩|h
 ·exact Or.inl ⟨rfl,_,_,rfl⟩
 ·exact Or.inl ⟨rfl,_,_,rfl⟩
 ·exact Or.inr h
theorem Strs1.later {w w':World}{v:Value}{xs:List ByteArray}(h:Strs1 w v xs)(hb:Below w.heap.size w w'):Strs1 w' v xs:=by
 rcases h with h|⟨b,o,c,rfl,hcap,hc⟩
 ·exact Or.inl h
 ·exact Or.inr ⟨b,o,c,rfl,hcap,fun k hk=>below_cell hb (hc k hk)⟩
theorem infoS:(Tryz.prog.info? 9).map (fun i=>(i.zero,i.size,i.bytes))=some (some (.string ByteArray.empty),1,16):=by kernel_rfl
theorem strs_of_owns {w:World}{base n:Nat}{v:Value}{e:TypeId}{xs:List ByteArray}(h:w.ownsRow base e 1 v n (xs.map Value.string)):Strs1 w v xs:=by
 obtain⟨hl,⟨rfl,rfl⟩|⟨g,cap,cur,rfl,hbase,hb,hn,hm,hsz,ht⟩⟩:=h
 ·have:xs=[]:=by simpa using hl
  exact Or.inl ⟨this,Or.inl rfl⟩
 ·have hl':xs.length=n:=by simpa using hl
  refine Or.inr ⟨g,0,cap,by rw[hl'],by omega,fun k hk=>?_⟩
  have hk':(cur.toList.take (n*1))[k]?=some (.string xs[k]):=by rw[ht];simp[hk]
  rw[List.getElem?_take_of_lt (by omega)] at hk'
  simp only[World.cell?,hb,Nat.zero_add]
  simpa using hk'
theorem owns_nil (w:World)(base:Nat)(e:TypeId):w.ownsRow base e 1 (.slice none 0 0) 0 (([]:List ByteArray).map Value.string):=⟨rfl,Or.inl ⟨rfl,rfl⟩⟩
theorem strs_oneCell (xs:List ByteArray):∀u∈xs.map Value.string,u.oneCell'=true:=by
 intro u hu
 obtain⟨_,_,rfl⟩:=List.mem_map.1 hu
 rfl
theorem cells_strs {w:World}{b o:Nat}{xs:List ByteArray}(hx:∀k (h:k<xs.length),w.cell? ⟨b,o+k,none⟩=some (.string xs[k])):∀j u,(xs.map Value.string)[j]?=some u→w.cell? ((⟨b,o,none⟩:Addr).add j)=some u:=by
 intro j u hu
 obtain⟨hj,rfl⟩:=List.getElem?_eq_some_iff.1 hu
 rw[Addr.add_lit,hx j (by simpa using hj)]
 simp
theorem ownTexts_any (v:Value)(xs:List ByteArray)(w:World)(hv:Strs1 w v xs)(hm:xs.length<1000000) :
  Calls Tryz.prog 7 #[v] w fun e w'=>∃v',e=.returned v'∧Strs1 w' v' xs∧Below w.heap.size w w':=by
 obtain⟨i,hi,hz0,hz1,hz2⟩:=info_parts infoS
 have hmax:0+xs.length≤maxLen:=by unfold maxLen;omega
 rcases hv with⟨rfl,rfl|⟨ad,c,rfl⟩⟩|⟨b,o,c,rfl,hcap,hx⟩
 ·go_enter Tryz.func7,Tryz.ntmps7
  go_wp2_with (at_builtin;refine wpList_append_own_none rfl _ _ 22 rfl w.heap.size 9 i 1 Tryz.underlying22 hi (.slice none 0 0) 0 _ rfl (owns_nil w _ _) rfl ?_)
  go_ret
  exact⟨_,rfl,Or.inl ⟨rfl,Or.inl rfl⟩,Below.refl _ _⟩
 ·have hn:([]:List ByteArray).map Value.string=[]:=rfl
  have hnews:∀j u,(([]:List ByteArray).map Value.string)[j]?=some u→w.cell? (ad.add j)=some u:=fun j u h=>by simp at h
  go_enter Tryz.func7,Tryz.ntmps7
  go_wp2_with fail
  go_ret
  exact⟨_,rfl,Or.inl ⟨rfl,Or.inl rfl⟩,Below.refl _ _⟩
 ·have hnews:=cells_strs hx
  go_enter Tryz.func7,Tryz.ntmps7
  go_wp2_with (at_builtin;refine wpList_append_own w rfl _ _ 22 rfl w.heap.size 9 i _ 1 16 Tryz.underlying22 hi hz0 hz1 hz2 rfl (by decide) (.slice none 0 0) 0 _ rfl (owns_nil w _ _) ⟨b,o,none⟩ xs.length c (xs.map Value.string) rfl (by simp) hnews (strs_oneCell xs) hmax (by omega) (Nat.le_refl _) ?_)
  intro v' w' hown hg _
  go_wp2
  go_ret
  refine⟨_,rfl,strs_of_owns (by simpa using hown),below_grown hg (fun k h=>by cases h)⟩
end Go.Proofs.YtjeicikflkjacaaGreatDoor
namespace Go.Proofs.YtjeicikflkjacaaGreatDoor
open Go.ChangeShapes Go.WideShapes Go.ChangeAt Go.RowKit
open Go.ChangeMaps (open_string shut_string)
theorem open_texts {H:Type}{enc:TypeId × Value→H}{W:World}{v:Value}{fuel:Nat}{x:DataW H × List MemPlace}{a0:Option Addr}{len cap:Nat}(hv:v=.slice a0 len cap)
  (hf:DataW.trod enc Tryz.prog W 0 (fun _=>true) true fuel 22 [.slice a0 len cap]=some x) :
  ∃xs:List ByteArray,Strs1 W v xs∧(∀k (h:k<xs.length),(xs[k]).size≤maxLen)∧xs.length≤maxLen:=by
 subst hv
 rcases open_strings Tryz.underlying22 Tryz.underlying9 cellsS hf with⟨hcs,_⟩|⟨a,len',cap',ss,hcs,_,hl,hm,hz,_,hcell,hws⟩
 ·simp at hcs
  obtain⟨rfl,rfl,rfl⟩:=hcs
  exact⟨[],Or.inl ⟨rfl,Or.inl rfl⟩,fun k h=>absurd h (by simp),by simp⟩
 ·simp at hcs
  obtain⟨rfl,rfl,rfl⟩:=hcs
  simp only[if_true] at hz
  have hlen:(ss.take len).length=len:=by simp;omega
  refine⟨ss.take len,?_,fun k h=>hws _ (List.mem_of_mem_take (List.getElem_mem h)),by omega⟩
  rcases Nat.eq_zero_or_pos len with h0|h0
  ·subst h0
   exact Or.inl ⟨by simp,Or.inr ⟨_,_,rfl⟩⟩
  ·obtain⟨b,off,spot⟩:=a
   have hspot:spot=none:=by simpa [Addr.add] using World.cell?_spot (hcell 0 (by omega))
   subst hspot
   refine Or.inr ⟨b,off,cap,by rw[hlen],by omega,fun k h=>?_⟩
   have hk:k<ss.length:=by omega
   have:=hcell k hk
   rw[Addr.add_lit] at this
   rw[this]
   simp[List.getD,hk]
end Go.Proofs.YtjeicikflkjacaaGreatDoor
