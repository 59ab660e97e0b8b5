/- Names of hosts: what is a name; lists that hold a text. -/
import Derived.Test.YtfhmfjcpggddkaaGreatDoorM2
import Derived.Test.YtfhmfjcpggddkaaGreatDoorCaSh
import Derived.Lib.AppendIntMem
import Derived.Lib.AtoiErrMem
import Derived.Maps.OwnOps
import Derived.Maps.OwnSet
import Derived.Carry
import Derived.Test.YtfhmfjcpggddkaaGreatDoorProg
import Derived.WalkKit
import Derived.WalkLawsBesides
import Derived.WalkSpells
import Derived.Below
import Derived.Laws.Concat
import Derived.Laws.Strings2
set_option maxHeartbeats 20000000
namespace Go.Proofs.YtfhmfjcpggddkaaGreatDoor
open Go.RowKit
namespace Lh
def letter (c:UInt8):Bool:=decide (97≤(c.toNat:Int)) && decide ((c.toNat:Int)≤122)
def digit (c:UInt8):Bool:=decide (48≤(c.toNat:Int)) && decide ((c.toNat:Int)≤57)
def okc (c:UInt8):Bool:=letter c || digit c || ((c.toNat:Int)==45)
def isNm (s:ByteArray):Bool:=decide (1≤s.size) && decide (s.size≤12) && (s.data.toList.head?.any letter) && s.data.toList.all okc
end Lh
theorem letter_any (c:UInt8)(w:World):Calls Tryz.prog 219 #[.int .u8 c.toNat] w fun e w'=>e=.returned (.bool (Lh.letter c))∧w'=w:=by
 by_cases h1:97≤(c.toNat:Int)
 ·by_cases h2:(c.toNat:Int)≤122
  ·have hr:Lh.letter c=true:=by simp[Lh.letter,h1,h2]
   rw[hr]
   go_enter Tryz.func219,Tryz.ntmps219
   go_wp2
   go_ret
   exact⟨rfl,rfl⟩
  ·have hr:Lh.letter c=false:=by simp[Lh.letter,h2]
   rw[hr]
   have h3:decide ((c.toNat:Int)≤122)=false:=by simpa using h2
   go_enter Tryz.func219,Tryz.ntmps219
   go_wp2
   go_ret
   exact⟨rfl,rfl⟩
 ·have hr:Lh.letter c=false:=by simp[Lh.letter,h1]
  rw[hr]
  have h3:decide (97≤(c.toNat:Int))=false:=by simpa using h1
  go_enter Tryz.func219,Tryz.ntmps219
  go_wp2
  go_ret
  exact⟨rfl,rfl⟩
theorem digit_any (c:UInt8)(w:World):Calls Tryz.prog 220 #[.int .u8 c.toNat] w fun e w'=>e=.returned (.bool (Lh.digit c))∧w'=w:=by
 by_cases h1:48≤(c.toNat:Int)
 ·by_cases h2:(c.toNat:Int)≤57
  ·have hr:Lh.digit c=true:=by simp[Lh.digit,h1,h2]
   rw[hr]
   go_enter Tryz.func220,Tryz.ntmps220
   go_wp2
   go_ret
   exact⟨rfl,rfl⟩
  ·have hr:Lh.digit c=false:=by simp[Lh.digit,h2]
   rw[hr]
   have h3:decide ((c.toNat:Int)≤57)=false:=by simpa using h2
   go_enter Tryz.func220,Tryz.ntmps220
   go_wp2
   go_ret
   exact⟨rfl,rfl⟩
 ·have hr:Lh.digit c=false:=by simp[Lh.digit,h1]
  rw[hr]
  have h3:decide (48≤(c.toNat:Int))=false:=by simpa using h1
  go_enter Tryz.func220,Tryz.ntmps220
  go_wp2
  go_ret
  exact⟨rfl,rfl⟩
theorem byte_at (s:ByteArray)(k:Nat)(h:k<s.size):s.data.toList[k]'(by simpa using h)=s[k]:=rfl
theorem all_take (s:ByteArray)(k:Nat)(h:k<s.size):(s.data.toList.take (k+1)).all Lh.okc=((s.data.toList.take k).all Lh.okc && Lh.okc s[k]):=by
 rw[take_snoc s k h,List.all_append];simp
theorem all_take_false (s:ByteArray)(k:Nat)(h:k<s.size)(hc:Lh.okc s[k]=false):s.data.toList.all Lh.okc=false:=by
 rw[List.all_eq_false]
 exact⟨s[k],by rw[←byte_at s k h];exact List.getElem_mem _,by simp[hc]⟩
theorem head_eq (s:ByteArray)(h:0<s.size):s.data.toList.head?.any Lh.letter=Lh.letter s[0]:=by
 rw[List.head?_eq_getElem?,List.getElem?_eq_getElem (by simpa using h),byte_at s 0 h];rfl
theorem isName_any (s:ByteArray)(w:World)(hs:s.size≤1000000) :
  Calls Tryz.prog 176 #[.string s] w fun e w'=>e=.returned (.bool (Lh.isNm s))∧w'=w:=by
 obtain⟨r,hr⟩:∃r,r=Lh.isNm s:=⟨_,rfl⟩
 rw[←hr]
 have HR:Hid _:=hr
 clear hr
 by_cases h0:s.size=0
 ·have e0:((s.size:Int)==0)=true:=by simp[h0]
  have:r=false:=by rw[HR.out];simp[Lh.isNm,h0]
  subst this
  clear h0
  go_enter Tryz.func176,Tryz.ntmps176
  go_wp2
  go_ret
  exact⟨rfl,rfl⟩
 ·have e0:((s.size:Int)==0)=false:=by rw[beq_eq_false_iff_ne];omega
  have h0':0<s.size:=by omega
  clear h0
  by_cases h12:12<s.size
  ·have e12:decide (12<(s.size:Int))=true:=by simp;omega
   have:r=false:=by rw[HR.out];simp[Lh.isNm];omega
   subst this
   go_enter Tryz.func176,Tryz.ntmps176
   go_wp2
   go_ret
   exact⟨rfl,rfl⟩
  ·have e12:decide (12<(s.size:Int))=false:=by simp;omega
   cases hl:Lh.letter s[0] with
   | false =>
    have:r=false:=by rw[HR.out];simp[Lh.isNm,head_eq s h0',hl]
    subst this
    have HL:Hid _:=hl
    clear hl
    go_enter Tryz.func176,Tryz.ntmps176
    go_wp2_with fail
    refine (letter_any _ _).mono ?_
    rintro e w1 ⟨rfl,rfl⟩
    rw[HL.out]
    go_wp2
    go_ret
    exact⟨rfl,rfl⟩
   | true =>
    have hra:r=s.data.toList.all Lh.okc:=by
     rw[HR.out];simp[Lh.isNm,head_eq s h0',hl];omega
    have HA:Hid _:=hra
    have HL:Hid _:=hl
    clear hra hl HR
    go_enter Tryz.func176,Tryz.ntmps176
    go_wp2_with fail
    refine (letter_any _ _).mono ?_
    rintro e w1 ⟨rfl,rfl⟩
    rw[HL.out]
    go_wp2_with fail
    go_loopw [20] (fun i W=>W=w1∧∃k:Nat,k≤s.size∧i=.int .i64 k∧(s.data.toList.take k).all Lh.okc=true) (fun i _=>s.size - (intOf i).toNat)
    case atStart=>exact⟨rfl,0,Nat.zero_le _,rfl,rfl⟩
    case round =>
     obtain⟨rfl,k,hk,rfl,hall⟩:=hrel
     have HP:Hid _:=hall
     clear hall
     by_cases hlt:k<s.size
     ·have HT:Hid _:=all_take s k hlt
      have HF:Hid (Lh.okc s[k]=false→s.data.toList.all Lh.okc=false):=all_take_false s k hlt
      cases h1:Lh.letter s[k] with
      | true =>
       have HO:Hid _:=(by simp[Lh.okc,h1]:Lh.okc s[k]=true)
       have H1:Hid _:=h1
       clear h1
       go_wp2_with fail
       refine (letter_any _ _).mono ?_
       rintro e w2 ⟨rfl,rfl⟩
       rw[H1.out]
       go_wp2
       exact⟨⟨by trivial,k+1,by omega,by go_num,by rw[HT.out,HP.out,HO.out];rfl⟩,by simp[intOf];omega⟩
      | false =>
       cases h2:Lh.digit s[k] with
       | true =>
        have HO:Hid _:=(by simp[Lh.okc,h2]:Lh.okc s[k]=true)
        have H1:Hid _:=h1
        have H2:Hid _:=h2
        clear h1 h2
        go_wp2_with fail
        refine (letter_any _ _).mono ?_
        rintro e w2 ⟨rfl,rfl⟩
        rw[H1.out]
        go_wp2_with fail
        refine (digit_any _ _).mono ?_
        rintro e w3 ⟨rfl,rfl⟩
        rw[H2.out]
        go_wp2
        exact⟨⟨by trivial,k+1,by omega,by go_num,by rw[HT.out,HP.out,HO.out];rfl⟩,by simp[intOf];omega⟩
       | false =>
        cases h3:((s[k].toNat:Int)==45) with
        | true =>
         have HO:Hid _:=(by simp only[Lh.okc,h3,Bool.or_true]:Lh.okc s[k]=true)
         have hne:((s[k].toNat:Int) != 45)=false:=by rw[bne,h3];rfl
         have H1:Hid _:=h1
         have H2:Hid _:=h2
         clear h1 h2 h3
         go_wp2_with fail
         refine (letter_any _ _).mono ?_
         rintro e w2 ⟨rfl,rfl⟩
         rw[H1.out]
         go_wp2_with fail
         refine (digit_any _ _).mono ?_
         rintro e w3 ⟨rfl,rfl⟩
         rw[H2.out]
         go_wp2
         exact⟨⟨by trivial,k+1,by omega,by go_num,by rw[HT.out,HP.out,HO.out];rfl⟩,by simp[intOf];omega⟩
        | false =>
         have HO:Hid _:=(by simp only[Lh.okc,h1,h2,h3];rfl:Lh.okc s[k]=false)
         have hne:((s[k].toNat:Int) != 45)=true:=by rw[bne,h3];rfl
         have H1:Hid _:=h1
         have H2:Hid _:=h2
         clear h1 h2 h3
         go_wp2_with fail
         refine (letter_any _ _).mono ?_
         rintro e w2 ⟨rfl,rfl⟩
         rw[H1.out]
         go_wp2_with fail
         refine (digit_any _ _).mono ?_
         rintro e w3 ⟨rfl,rfl⟩
         rw[H2.out]
         go_wp2
         go_ret
         refine⟨ret_bool ?_,rfl⟩
         rw[HA.out,HF.out HO.out]
     ·go_wp2
      go_ret
      refine⟨ret_bool ?_,rfl⟩
      rw[HA.out,←HP.out,List.take_of_length_le (by simp;omega)]
theorem head_false (s:ByteArray)(h:0<s.size)(hc:Lh.letter s[0]=false):Lh.isNm s=false:=by simp[Lh.isNm,head_eq s h,hc]
theorem all_false (s:ByteArray)(k:Nat)(h:k<s.size)(hc:Lh.okc s[k]=false):Lh.isNm s=false:=by simp only[Lh.isNm,all_take_false s k h hc,Bool.and_false]
theorem isNm_true (s:ByteArray)(h:0<s.size)(h12:¬12<s.size)(hl:Lh.letter s[0]=true)(ha:s.data.toList.all Lh.okc=true):Lh.isNm s=true:=by
 simp only[Lh.isNm,head_eq s h,hl,ha,Bool.and_true];simp;omega
theorem refName_any (s:ByteArray)(w:World)(hs:s.size≤1000000) :
  Calls Tryz.prog 18 #[.string s] w fun e w'=>e=.returned (.bool (Lh.isNm s))∧w'=w:=by
 obtain⟨r,hr⟩:∃r,r=Lh.isNm s:=⟨_,rfl⟩
 rw[←hr]
 have HR:Hid _:=hr
 clear hr
 by_cases h0:s.size<1
 ·have e0:decide ((s.size:Int)<1)=true:=by simp;omega
  have:r=false:=by rw[HR.out];simp[Lh.isNm];omega
  subst this
  clear h0
  go_enter Tryz.func18,Tryz.ntmps18
  go_wp2
  go_ret
  exact⟨rfl,rfl⟩
 ·have e0:decide ((s.size:Int)<1)=false:=by simp;omega
  by_cases h12:12<s.size
  ·have e12:decide (12<(s.size:Int))=true:=by simp;omega
   have:r=false:=by rw[HR.out];simp[Lh.isNm];omega
   subst this
   go_enter Tryz.func18,Tryz.ntmps18
   go_wp2
   go_ret
   exact⟨rfl,rfl⟩
  ·have e12:decide (12<(s.size:Int))=false:=by simp;omega
   have h0':0<s.size:=by omega
   clear h0
   go_enter Tryz.func18,Tryz.ntmps18
   go_wp2
   go_loop [3] (fun i=>∃k:Nat,k≤s.size∧i=.int .i64 k∧(s.data.toList.take k).all Lh.okc=true∧(0<k→Lh.letter s[0]=true)) (fun i=>s.size - (intOf i).toNat)
   case atStart=>exact⟨0,Nat.zero_le _,rfl,rfl,fun h=>absurd h (by decide)⟩
   case round =>
    obtain⟨k,hk,rfl,hall,hlet⟩:=hrel
    have HP:Hid _:=hall
    have HQ:Hid _:=hlet
    clear hall hlet
    by_cases hlt:k<s.size
    ·have HT:Hid _:=all_take s k hlt
     obtain⟨c,hc⟩:∃c,c=s[k]:=⟨_,rfl⟩
     have HC:Hid _:=hc
     by_cases ha:97≤(s[k].toNat:Int)∧(s[k].toNat:Int)≤122
     ·have hl1:Lh.letter s[k]=true:=by simp[Lh.letter,ha.1,ha.2]
      have HO:Hid _:=(by simp[Lh.okc,hl1]:Lh.okc s[k]=true)
      have HK:Hid (0<k+1→Lh.letter s[0]=true):=fun _=>by
       rcases Nat.eq_zero_or_pos k with h|h
       ·subst h;exact hl1
       ·exact HQ.out h
      obtain⟨ha1,ha2⟩:=ha
      clear hl1 hc
      go_wp2
      go_round
      case rel=>exact⟨k+1,by omega,by go_num,by rw[HT.out,HP.out,HO.out];rfl,HK.out⟩
      case measure=>simp[intOf];omega
     ·rcases (by omega:122<(s[k].toNat:Int)∨(48≤(s[k].toNat:Int)∧(s[k].toNat:Int)≤57)∨(s[k].toNat:Int)=45∨((s[k].toNat:Int)<48∧(s[k].toNat:Int)≠45)∨(57<(s[k].toNat:Int)∧(s[k].toNat:Int)<97)) with h|⟨h,h'⟩|h|⟨h,h'⟩|⟨h,h'⟩
      ·have hnl:Lh.letter s[k]=false:=by simp[Lh.letter];omega
       have hd0:decide (97≤(s[k].toNat:Int))=true:=by simp;omega
       have hd1:decide ((s[k].toNat:Int)≤122)=false:=by simp;omega
       have hd2:decide (48≤(s[k].toNat:Int))=true:=by simp;omega
       have hd3:decide ((s[k].toNat:Int)≤57)=false:=by simp;omega
       have heq:((s[k].toNat:Int)==45)=false:=by rw[beq_eq_false_iff_ne];omega
       clear ha
       have hnd:Lh.digit s[k]=false:=by simp[Lh.digit];omega
       have HB:Hid (Lh.isNm s=false):=all_false s k hlt (by simp only[Lh.okc,hnl,heq,hnd,Bool.or_false])
       clear hnl hc hnd
       go_wp2
       all_goals (go_ret;exact⟨ret_bool (by rw[HR.out,HB.out]),rfl⟩)
      ·have hnl:Lh.letter s[k]=false:=by simp[Lh.letter];omega
       have hd0:decide (97≤(s[k].toNat:Int))=false:=by simp;omega
       have hd2:decide (48≤(s[k].toNat:Int))=true:=by simp;omega
       have hd3:decide ((s[k].toNat:Int)≤57)=true:=by simp;omega
       clear ha
       have HO:Hid _:=(by simp[Lh.okc,Lh.digit];omega:Lh.okc s[k]=true)
       by_cases hk0:k=0
       ·have HB:Hid (Lh.isNm s=false):=head_false s h0' (by have e:=hk0;subst e;exact hnl)
        have ek:((k:Int)==0)=true:=by simp[hk0]
        clear hk0 hnl hc
        go_wp2
        go_ret
        exact⟨ret_bool (by rw[HR.out,HB.out]),rfl⟩
       ·have ek:((k:Int)==0)=false:=by rw[beq_eq_false_iff_ne];omega
        have HK:Hid (Lh.letter s[0]=true):=HQ.out (by omega)
        clear hk0 hnl hc
        go_wp2
        go_round
        case rel=>exact⟨k+1,by omega,by go_num,by rw[HT.out,HP.out,HO.out];rfl,fun _=>HK.out⟩
        case measure=>simp[intOf];omega
      ·have hnl:Lh.letter s[k]=false:=by simp[Lh.letter];omega
       have hd0:decide (97≤(s[k].toNat:Int))=false:=by simp;omega
       have hd2:decide (48≤(s[k].toNat:Int))=false:=by simp;omega
       have heq:((s[k].toNat:Int)==45)=true:=by rw[beq_iff_eq];exact h
       clear ha h
       have HO:Hid _:=(by simp only[Lh.okc,heq,Bool.or_true]:Lh.okc s[k]=true)
       by_cases hk0:k=0
       ·have HB:Hid (Lh.isNm s=false):=head_false s h0' (by have e:=hk0;subst e;exact hnl)
        have ek:((k:Int)==0)=true:=by simp[hk0]
        clear hk0 hnl hc
        go_wp2
        go_ret
        exact⟨ret_bool (by rw[HR.out,HB.out]),rfl⟩
       ·have ek:((k:Int)==0)=false:=by rw[beq_eq_false_iff_ne];omega
        have HK:Hid (Lh.letter s[0]=true):=HQ.out (by omega)
        clear hk0 hnl hc
        go_wp2
        go_round
        case rel=>exact⟨k+1,by omega,by go_num,by rw[HT.out,HP.out,HO.out];rfl,fun _=>HK.out⟩
        case measure=>simp[intOf];omega
      ·have hnl:Lh.letter s[k]=false:=by simp[Lh.letter];omega
       have hd0:decide (97≤(s[k].toNat:Int))=false:=by simp;omega
       have hd2:decide (48≤(s[k].toNat:Int))=false:=by simp;omega
       have heq:((s[k].toNat:Int)==45)=false:=by rw[beq_eq_false_iff_ne];omega
       clear ha
       have hnd:Lh.digit s[k]=false:=by simp[Lh.digit];omega
       have HB:Hid (Lh.isNm s=false):=all_false s k hlt (by simp only[Lh.okc,hnl,heq,hnd,Bool.or_false])
       clear hnl hc hnd
       go_wp2
       all_goals (go_ret;exact⟨ret_bool (by rw[HR.out,HB.out]),rfl⟩)
      ·have hnl:Lh.letter s[k]=false:=by simp[Lh.letter];omega
       have hd0:decide (97≤(s[k].toNat:Int))=false:=by simp;omega
       have hd2:decide (48≤(s[k].toNat:Int))=true:=by simp;omega
       have hd3:decide ((s[k].toNat:Int)≤57)=false:=by simp;omega
       have heq:((s[k].toNat:Int)==45)=false:=by rw[beq_eq_false_iff_ne];omega
       clear ha
       have hnd:Lh.digit s[k]=false:=by simp[Lh.digit];omega
       have HB:Hid (Lh.isNm s=false):=all_false s k hlt (by simp only[Lh.okc,hnl,heq,hnd,Bool.or_false])
       clear hnl hc hnd
       go_wp2
       all_goals (go_ret;exact⟨ret_bool (by rw[HR.out,HB.out]),rfl⟩)
    ·go_wp2
     go_ret
     refine⟨ret_bool ?_,rfl⟩
     rw[HR.out]
     exact (isNm_true s h0' h12 (HQ.out (by omega)) (by have:=HP.out;rwa [List.take_of_length_le (by simp;omega)] at this)).symm
namespace Lh
def mem (s:ByteArray)(xs:List ByteArray):Bool:=xs.any fun x=>decide (x=s)
theorem mem_true {s:ByteArray}{xs:List ByteArray}(h:s∈xs):mem s xs=true:=by
 unfold mem;rw[List.any_eq_true];exact⟨s,h,by simp⟩
theorem mem_false {s:ByteArray}{xs:List ByteArray}(h:¬s∈xs):mem s xs=false:=by
 unfold mem;rw[List.any_eq_false];intro x hx;simp only[decide_eq_true_eq];intro e;subst e;exact h hx
end Lh
def ErrIs (a:Nat→Addr)(W:World)(c:Nat)(pl:Int)(v:Value):Prop :=
 (c=0∧pl = -1∧v=.nilIface) ∨
 (∃i,i<9∧c=i+1∧((pl = -1∧v=.iface 378 (.pointer (some (a i)))) ∨
  ∃b,v=.iface 103 (.pointer (some ⟨b,0,none⟩))∧W.cell? ⟨b,0,none⟩=some (.int .i64 pl)∧W.cell? ⟨b,1,none⟩=some (.iface 378 (.pointer (some (a i))))))
theorem ErrIs.later {a:Nat→Addr}{W W':World}{c:Nat}{pl:Int}{v:Value}(h:ErrIs a W c pl v)(hb:Below W.heap.size W W'):ErrIs a W' c pl v:=by
 rcases h with h|⟨i,hi,hc,h|⟨b,hv,h0,h1⟩⟩
 ·exact Or.inl h
 ·exact Or.inr ⟨i,hi,hc,Or.inl h⟩
 ·exact Or.inr ⟨i,hi,hc,Or.inr ⟨b,hv,below_cell hb h0,below_cell hb h1⟩⟩
/- the first place of a text in a list -/
theorem contains_core (b o c:Nat)(xs:List ByteArray)(s:ByteArray)(w:World)(hx:∀k (h:k<xs.length),w.cell? ⟨b,o+k,none⟩=some (.string xs[k]))(hm:xs.length<1000000) :
  Calls Tryz.prog 221 #[.slice (some ⟨b,o,none⟩) xs.length c,.string s] w fun e w'=>(∃j:Int,e=.returned (.int .i64 j)∧decide (0≤j)=Lh.mem s xs)∧w'=w:=by
 have HX:Hid _:=hx
 clear hx
 go_enter Tryz.func221,Tryz.ntmps221
 go_wp2
 go_loop [8] (fun t=>∃k:Nat,k≤xs.length∧t=.int .i64 k∧∀j (h:j<xs.length),j<k→xs[j]≠s) (fun t=>xs.length - (intOf t).toNat)
 case atStart=>exact⟨0,Nat.zero_le _,rfl,fun j _ h=>absurd h (by omega)⟩
 case round =>
  obtain⟨k,hk,rfl,hpre⟩:=hrel
  have HP:Hid _:=hpre
  clear hpre
  by_cases hlt:k<xs.length
  ·have cx:=HX.out k hlt
   generalize hxk:xs[k]=xk at *
   have HXK:Hid _:=hxk
   clear hxk
   by_cases heq:s=xk
   ·have hne:(s.toList==xk.toList)=true:=bytes_same heq
    have HE:Hid _:=heq
    clear heq
    go_wp2
    go_ret
    refine⟨⟨(k:Int),rfl,?_⟩,rfl⟩
    rw[decide_eq_true (by omega),Lh.mem_true]
    rw[HE.out,←HXK.out]
    exact List.getElem_mem _
   ·have hne:(s.toList==xk.toList)=false:=bytes_parts heq
    have HE:Hid _:=heq
    clear heq
    go_wp2
    go_round
    case rel =>
     refine⟨k+1,by omega,by go_num,fun j h hj=>?_⟩
     by_cases hjk:j=k
     ·subst hjk;rw[HXK.out];exact fun e=>HE.out e.symm
     ·exact HP.out j h (by omega)
    case measure=>simp[intOf];omega
  ·go_wp2
   go_ret
   refine⟨⟨-1,rfl,?_⟩,rfl⟩
   rw[decide_eq_false (by omega),Lh.mem_false]
   intro hm
   obtain⟨j,hj,e⟩:=List.getElem_of_mem hm
   exact HP.out j hj (by omega) e
theorem index_zero (p:Option Addr)(c:Nat)(s:ByteArray)(w:World) :
  Calls Tryz.prog 221 #[.slice p 0 c,.string s] w fun e w'=>e=.returned (.int .i64 (-1))∧w'=w:=by
 go_enter Tryz.func221,Tryz.ntmps221
 go_wp2
 refine wp_loop_rounds 1 ?_
 rw[rounds_succ]
 go_wp2
 go_ret
 exact⟨rfl,rfl⟩
theorem contains_any (v:Value)(xs:List ByteArray)(s:ByteArray)(w:World)(hv:Strs w v xs)(hm:xs.length<1000000) :
  Calls Tryz.prog 177 #[v,.string s] w fun e w'=>e=.returned (.bool (Lh.mem s xs))∧w'=w:=by
 have key:Calls Tryz.prog 221 #[v,.string s] w fun e w'=>(∃j:Int,e=.returned (.int .i64 j)∧decide (0≤j)=Lh.mem s xs)∧w'=w:=by
  rcases hv with⟨rfl,p,c,rfl⟩|⟨b,o,c,rfl,_,hc⟩
  ·exact (index_zero p c s w).mono fun e w' ⟨h1,h2⟩=>⟨⟨-1,h1,rfl⟩,h2⟩
  ·exact contains_core b o c xs s w hc hm
 clear hv
 go_enter Tryz.func177,Tryz.ntmps177
 go_wp2_with fail
 refine key.mono ?_
 rintro e w1 ⟨⟨j,rfl,hj⟩,rfl⟩
 have HJ:Hid _:=hj
 clear hj key
 go_wp2
 go_ret
 exact⟨ret_bool HJ.out,rfl⟩
theorem refIndex_any (b o c:Nat)(xs:List ByteArray)(i:Nat)(hi:i<xs.length)(w:World)(hx:∀k (h:k<xs.length),w.cell? ⟨b,o+k,none⟩=some (.string xs[k]))(hm:xs.length<1000000) :
  Calls Tryz.prog 73 #[.slice (some ⟨b,o,none⟩) xs.length c,.string xs[i]] w fun e w'=>(∃j:Int,e=.returned (.int .i64 j)∧decide (j<(i:Int))=Lh.mem xs[i] (xs.take i))∧w'=w:=by
 have HX:Hid _:=hx
 clear hx
 obtain⟨s,hs⟩:∃s,s=xs[i]:=⟨_,rfl⟩
 rw[←hs]
 have HS:Hid _:=hs
 clear hs
 go_enter Tryz.func73,Tryz.ntmps73
 go_wp2
 go_loop [5] (fun t=>∃k:Nat,k≤i∧t=.int .i64 k∧∀j (h:j<xs.length),j<k→xs[j]≠s) (fun t=>xs.length - (intOf t).toNat)
 case atStart=>exact⟨0,Nat.zero_le _,rfl,fun j _ h=>absurd h (by omega)⟩
 case round =>
  obtain⟨k,hk,rfl,hpre⟩:=hrel
  have HP:Hid _:=hpre
  clear hpre
  have hlt:k<xs.length:=by omega
  have cx:=HX.out k hlt
  generalize hxk:xs[k]=xk at *
  have HXK:Hid _:=hxk
  clear hxk
  by_cases heq:xk=s
  ·have hne:(xk.toList==s.toList)=true:=bytes_same heq
   have HE:Hid _:=heq
   clear heq
   go_wp2
   go_ret
   refine⟨⟨(k:Int),rfl,?_⟩,rfl⟩
   by_cases hki:k<i
   ·rw[decide_eq_true (by omega),Lh.mem_true]
    rw[List.mem_take_iff_getElem]
    exact⟨k,by omega,by rw[HXK.out,HE.out]⟩
   ·rw[decide_eq_false (by omega),Lh.mem_false]
    intro hmem
    rw[List.mem_take_iff_getElem] at hmem
    obtain⟨j,hj,e⟩:=hmem
    exact HP.out j (by omega) (by omega) e
  ·have hne:(xk.toList==s.toList)=false:=bytes_parts heq
   have hki:k<i:=by
    rcases Nat.lt_or_ge k i with h|h
    ·exact h
    ·exfalso
     have:k=i:=by omega
     subst this
     exact heq (by rw[←HXK.out,HS.out])
   have HE:Hid _:=heq
   clear heq
   go_wp2
   go_round
   case rel =>
    refine⟨k+1,by omega,by go_num,fun j h hj=>?_⟩
    by_cases hjk:j=k
    ·subst hjk;rw[HXK.out];exact HE.out
    ·exact HP.out j h (by omega)
   case measure=>simp[intOf];omega
theorem heap_newC (w:World)(o:Obj):(w.alloc o).heap[w.heap.size]?=some o:=by
 unfold World.alloc
 simp
structure EC (a:Nat→Addr)(W:World):Prop where
 s0:W.cell? ⟨1,0,none⟩=some (.iface 378 (.pointer (some (a 0))))
 s1:W.cell? ⟨0,0,none⟩=some (.iface 378 (.pointer (some (a 1))))
 s3:W.cell? ⟨3,0,none⟩=some (.iface 378 (.pointer (some (a 3))))
 s5:W.cell? ⟨5,0,none⟩=some (.iface 378 (.pointer (some (a 5))))
 syn:∃te pe,W.cell? ⟨16,0,none⟩=some (.iface te pe)
 rng:∃te pe,W.cell? ⟨17,0,none⟩=some (.iface te pe)
 tab : Lib.TabIs Tryz.prog W "internal/strconv.uint64pow10" .u64 Lib.pow10Tab
 brj:W.cell? ⟨15,15,none⟩=some (.int .u8 4)
 mln:∃m,W.cell? ⟨10,0,none⟩=some (.int .i64 m)
theorem EC.later {a:Nat→Addr}{W W':World}(h:EC a W)(hb:Below W.heap.size W W'):EC a W' where
 s0:=below_cell hb h.s0
 s1:=below_cell hb h.s1
 s3:=below_cell hb h.s3
 s5:=below_cell hb h.s5
 syn:=let ⟨te,pe,e⟩:=h.syn;⟨te,pe,below_cell hb e⟩
 rng:=let ⟨te,pe,e⟩:=h.rng;⟨te,pe,below_cell hb e⟩
 tab:=Lib.tabBelow_of_tabIs h.tab W' hb
 brj:=below_cell hb h.brj
 mln:=let ⟨m,e⟩:=h.mln;⟨m,below_cell hb e⟩
theorem join3_any (b c:Nat)(x y z:List UInt8)(w:World)(h0:w.cell? ⟨b,0,none⟩=some (.string (Lh.bt x)))(h1:w.cell? ⟨b,1,none⟩=some (.string (Lh.bt y)))(h2:w.cell? ⟨b,2,none⟩=some (.string (Lh.bt z)))(hb:b<w.heap.size)(hc:3≤c)(hl:(Lh.joinL 32 [x,y,z]).length≤1000000) :
  Calls Tryz.prog 42 #[.slice (some ⟨b,0,none⟩) 3 c,.string (Lh.bt [32])] w fun e w'=>e=.returned (.string (Lh.bt (Lh.joinL 32 [x,y,z])))∧Below w.heap.size w w':=by
 have e:Lib.join ([Lh.bt x,Lh.bt y,Lh.bt z].map (·.data.toList)) (Lh.bt [32]).data.toList=Lh.joinL 32 [x,y,z]:=Lh.join_three x y z
 have h:=Any.strings_Join lays156 Builder_Extra_156 b 0 c [Lh.bt x,Lh.bt y,Lh.bt z] (Lh.bt [32]) w (fun j s hj=>by
  match j,hj with
  | 0,hj=>cases hj;exact h0
  | 1,hj=>cases hj;exact h1
  | 2,hj=>cases hj;exact h2) hb (by simp) hc (by rw[e];omega)
 rw[e] at h
 exact h
theorem join2_any (b c:Nat)(x y:List UInt8)(w:World)(h0:w.cell? ⟨b,0,none⟩=some (.string (Lh.bt x)))(h1:w.cell? ⟨b,1,none⟩=some (.string (Lh.bt y)))(hb:b<w.heap.size)(hc:2≤c)(hl:(Lh.joinL 32 [x,y]).length≤1000000) :
  Calls Tryz.prog 42 #[.slice (some ⟨b,0,none⟩) 2 c,.string (Lh.bt [32])] w fun e w'=>e=.returned (.string (Lh.bt (Lh.joinL 32 [x,y])))∧Below w.heap.size w w':=by
 have e:Lib.join ([Lh.bt x,Lh.bt y].map (·.data.toList)) (Lh.bt [32]).data.toList=Lh.joinL 32 [x,y]:=Lh.join_two x y
 have h:=Any.strings_Join lays156 Builder_Extra_156 b 0 c [Lh.bt x,Lh.bt y] (Lh.bt [32]) w (fun j s hj=>by
  match j,hj with
  | 0,hj=>cases hj;exact h0
  | 1,hj=>cases hj;exact h1) hb (by simp) hc (by rw[e];omega)
 rw[e] at h
 exact h
theorem itoa_any {a:Nat→Addr}(n:Nat)(hn:n≤9223372036854775807)(w:World)(he:EC a w) :
  Calls Tryz.prog 87 #[.int .i64 (n:Nat)] w fun e w'=>e=.returned (.string (Lh.bt (Lh.decL n)))∧Below w.heap.size w w':=by
 refine (Any.strconv_Itoa laysM171 (n:Int) (by omega) (by omega) w he.tab).mono ?_
 rintro e w' ⟨rfl,k,os,rfl⟩
 exact⟨by rw[Lh.itoa_dec];rfl,Lib.below_grow _ w (Nat.le_refl _) k os⟩
theorem atoi_any {a:Nat→Addr}(s:List UInt8)(hs:s.length≤100000)(w:World)(he:EC a w) :
  Calls Tryz.prog 260 #[.string (Lh.bt s)] w fun e w'=>Below w.heap.size w w'∧((∃v,Lib.atoiAll s=.ok v∧e=.returned (.tuple #[.int .i64 v,.nilIface]))∨((∀v,Lib.atoiAll s≠.ok v)∧∃x t p,e=.returned (.tuple #[.int .i64 x,.iface t p]))):=by
 have hsz:(Lh.bt s).size=s.length:=by simp[Lh.bt,ByteArray.size]
 cases h:Lib.atoiAll s with
 | ok v =>
  refine (Any.strconv_Atoi_ok laysC172 (Lh.bt s) (by omega) v h w).mono ?_
  rintro e w' ⟨rfl,rfl|⟨t,rfl⟩⟩
  ·exact⟨Below.refl _ _,Or.inl ⟨v,rfl,rfl⟩⟩
  ·exact⟨Lib.bytesWorld_below w _ t,Or.inl ⟨v,rfl,rfl⟩⟩
 | «syntax» =>
  obtain⟨te,pe,hv⟩:=he.syn
  refine (Any.strconv_Atoi_syntax laysC172 (Lh.bt s) (by omega) h _ w hv (Or.inr ⟨te,pe,rfl⟩)).mono ?_
  rintro e w' ⟨N,rfl,_,_,hb⟩
  exact⟨hb,Or.inr ⟨fun v e=>(by cases e),_,_,_,rfl⟩⟩
 | range =>
  obtain⟨te,pe,hv⟩:=he.rng
  refine (Any.strconv_Atoi_range laysC172 (Lh.bt s) (by omega) h _ w hv (Or.inr ⟨te,pe,rfl⟩)).mono ?_
  rintro e w' ⟨N,rfl,_,_,hb⟩
  exact⟨hb,Or.inr ⟨fun v e=>(by cases e),_,_,_,rfl⟩⟩
theorem split_any {a:Nat→Addr}(s:List UInt8)(y:UInt8)(hs:s.length≤100000)(w:World)(he:EC a w) :
  Calls Tryz.prog 108 #[.string (Lh.bt s),.string (Lh.bt [y])] w fun e w'=>e=.returned (.slice (some ⟨w.heap.size,0,none⟩) (Lh.cutL y s).length (Lh.cutL y s).length)∧Below w.heap.size w w'∧w.heap.size<w'.heap.size ∧
   ∀j (hj:j<(Lh.cutL y s).length),w'.cell? ⟨w.heap.size,j,none⟩=some (.string (Lh.bt (Lh.cutL y s)[j])):=by
 have hsz:(Lh.bt s).size=s.length:=by simp[Lh.bt,ByteArray.size]
 obtain⟨m,hm⟩:=he.mln
 refine (Any.strings_Split lays146 (by kernel_rfl) (Lh.bt s) (Lh.bt [y]) m w (by omega) hm (Nat.le_refl 1)).mono ?_
 rintro e w' ⟨rfl,rfl⟩
 rw[Lh.splitB_cut,Lh.count_cut]
 refine⟨rfl,(Below.refl _ _).alloc (Nat.le_refl _) _,by simp,fun j hj=>?_⟩
 rw[Lib.cell_of_heap (heap_newC w _)]
 simp[hj]
theorem repeat_any (c:Nat)(hc:c≤1000)(w:World) :
  Calls Tryz.prog 255 #[.string (Lh.bt [48]),.int .i64 (c:Nat)] w fun e w'=>e=.returned (.string (Lh.bt (List.replicate c 48)))∧Below w.heap.size w w':=by
 refine (Any.strings_Repeat lays105 Builder_Extra_105 (Lh.bt [48]) c w (by omega) (by
  have:(Lh.bt [48]).size=1:=rfl
  rw[this]
  omega)).mono ?_
 rintro e w' ⟨rfl,hb⟩
 refine⟨?_,hb⟩
 rw[←Lh.repeat_zero]
 rfl
end Go.Proofs.YtfhmfjcpggddkaaGreatDoor
namespace Go.Proofs.YtfhmfjcpggddkaaGreatDoor
namespace Lh
def put1 (most:Nat)(out:List Nat)(o:List Nat):List Nat :=
 match o.find? fun h=>decide (out.count h<most) with
 | some h=>out++[h]
 | none=>out
def places (most:Nat)(os:List (List Nat)):List Nat:=os.foldl (put1 most) []
end Lh
end Go.Proofs.YtfhmfjcpggddkaaGreatDoor
namespace Go.Proofs.YtfhmfjcpggddkaaGreatDoor
open Go.RowKit Go.Maps Go.ChangeMaps
theorem fkeyS (s:ByteArray)(hs:s.size≤300):keyOf Tryz.prog 9 (.string s)=some (.string s.data.toList):=Go.WideMaps.keyOf_string_mk Tryz.underlying9 (Nat.le_trans hs (by unfold maxLen;omega))
theorem wfU {z:Nat}(h:z<18446744073709551616):(Lit.int .u64 (z:Nat)).wf=true:=by
 simp[Lit.wf,IntKind.min,IntKind.max,IntKind.signed,IntKind.bits]
 omega
theorem fkeyU (z:Nat)(h:z<18446744073709551616):keyOf Tryz.prog 63 (.int .u64 (z:Nat))=some (.int .u64 (z:Nat)):=keyOf_int_mk Tryz.underlying63 (wfU h)
theorem wfI {n:Nat}(h:n≤1000000):(Lit.int .i64 (n:Nat)).wf=true:=by
 simp[Lit.wf,IntKind.min,IntKind.max,IntKind.signed,IntKind.bits]
 omega
theorem strs_lit_ne {s t:ByteArray}(h:s≠t):Lit.string s.data.toList≠Lit.string t.data.toList:=by
 intro e
 simp only[Lit.string.injEq] at e
 apply h
 cases s
 cases t
 simpa using e
theorem ownsMap_later {k:TypeId}{R:Value→Option (DataW Unit × List MemPlace)}{w w':World}{b n:Nat}{D:DataW Unit}(h:w.ownsMap Tryz.prog k R b n D)(he:w'.heap[b]?=w.heap[b]?):w'.ownsMap Tryz.prog k R b n D:=by
 obtain⟨es,clock,hb,r⟩:=h
 exact⟨es,clock,he.trans hb,r⟩
end Go.Proofs.YtfhmfjcpggddkaaGreatDoor
namespace Go.Proofs.YtfhmfjcpggddkaaGreatDoor
open Go.RowKit
def Good (xs:List ByteArray)(j:Nat)(h:j<xs.length):Prop:=Lh.isNm xs[j]=true∧Lh.mem xs[j] (xs.take j)=false
def IsFault (xs:List ByteArray)(c:Nat)(pl:Int):Prop :=
 (12<xs.length∧c=2∧pl = -1) ∨
 (¬12<xs.length∧∃i,∃h:i<xs.length,(∀j,j<i→∀hj:j<xs.length,Good xs j hj)∧pl=i∧((Lh.isNm xs[i]=false∧c=4)∨(Lh.isNm xs[i]=true∧Lh.mem xs[i] (xs.take i)=true∧c=6))) ∨
 (¬12<xs.length∧(∀j,∀hj:j<xs.length,Good xs j hj)∧c=0∧pl = -1)
theorem fault_scan (xs:List ByteArray):∀n,n≤xs.length→(∀j,j<n→∀hj:j<xs.length,Good xs j hj)∨∃i,∃h:i<xs.length,(∀j,j<i→∀hj:j<xs.length,Good xs j hj)∧¬Good xs i h
 | 0,_=>Or.inl fun j h=>absurd h (by omega)
 | n+1,hn=>by
  rcases fault_scan xs n (by omega) with h|h
  ·by_cases hg:Good xs n (by omega)
   ·refine Or.inl fun j hj hl=>?_
    by_cases e:j=n
    ·subst e;exact hg
    ·exact h j (by omega) hl
   ·exact Or.inr ⟨n,by omega,h,hg⟩
  ·exact Or.inr h
theorem isFault_ex (xs:List ByteArray):∃c pl,IsFault xs c pl:=by
 by_cases h12:12<xs.length
 ·exact⟨2,-1,Or.inl ⟨h12,rfl,rfl⟩⟩
 ·rcases fault_scan xs xs.length (Nat.le_refl _) with h|⟨i,hi,h,hg⟩
  ·exact⟨0,-1,Or.inr (Or.inr ⟨h12,fun j hj=>h j hj hj,rfl,rfl⟩)⟩
  ·cases hn:Lh.isNm xs[i] with
   | false=>exact⟨4,i,Or.inr (Or.inl ⟨h12,i,hi,h,rfl,Or.inl ⟨hn,rfl⟩⟩)⟩
   | true =>
    cases hm:Lh.mem xs[i] (xs.take i) with
    | true=>exact⟨6,i,Or.inr (Or.inl ⟨h12,i,hi,h,rfl,Or.inr ⟨hn,hm,rfl⟩⟩)⟩
    | false=>exact absurd ⟨hn,hm⟩ hg
/- what the loops find -/
theorem fault_name {xs:List ByteArray}{c:Nat}{pl:Int}(hf:IsFault xs c pl)(h12:¬12<xs.length){k:Nat}(hk:k<xs.length)(hp:∀j,j<k→∀hj:j<xs.length,Good xs j hj)(hn:Lh.isNm xs[k]=false):c=4∧pl=k:=by
 rcases hf with⟨h,_⟩|⟨_,i,hi,h,e,hc⟩|⟨_,h,_⟩
 ·exact absurd h h12
 ·have hik:i=k:=by
   rcases Nat.lt_trichotomy i k with hlt|rfl|hgt
   ·obtain⟨g1,g2⟩:=hp i hlt hi
    rcases hc with⟨hc,_⟩|⟨_,hc,_⟩
    ·rw[g1] at hc;cases hc
    ·rw[g2] at hc;cases hc
   ·rfl
   ·rw[(h k hgt hk).1] at hn;cases hn
  subst hik
  rcases hc with⟨_,hc⟩|⟨hc,_⟩
  ·exact⟨hc,e⟩
  ·rw[hn] at hc;cases hc
 ·rw[(h k hk).1] at hn;cases hn
theorem fault_exist {xs:List ByteArray}{c:Nat}{pl:Int}(hf:IsFault xs c pl)(h12:¬12<xs.length){k:Nat}(hk:k<xs.length)(hp:∀j,j<k→∀hj:j<xs.length,Good xs j hj)(hn:Lh.isNm xs[k]=true)(hm:Lh.mem xs[k] (xs.take k)=true):c=6∧pl=k:=by
 rcases hf with⟨h,_⟩|⟨_,i,hi,h,e,hc⟩|⟨_,h,_⟩
 ·exact absurd h h12
 ·have hik:i=k:=by
   rcases Nat.lt_trichotomy i k with hlt|rfl|hgt
   ·obtain⟨g1,g2⟩:=hp i hlt hi
    rcases hc with⟨hc,_⟩|⟨_,hc,_⟩
    ·rw[g1] at hc;cases hc
    ·rw[g2] at hc;cases hc
   ·rfl
   ·rw[(h k hgt hk).2] at hm;cases hm
  subst hik
  rcases hc with⟨hc,_⟩|⟨_,_,hc⟩
  ·rw[hn] at hc;cases hc
  ·exact⟨hc,e⟩
 ·rw[(h k hk).2] at hm;cases hm
theorem fault_none {xs:List ByteArray}{c:Nat}{pl:Int}(hf:IsFault xs c pl)(h12:¬12<xs.length)(hp:∀j,∀hj:j<xs.length,Good xs j hj):c=0∧pl = -1:=by
 rcases hf with⟨h,_⟩|⟨_,i,hi,h,e,hc⟩|⟨_,_,h⟩
 ·exact absurd h h12
 ·obtain⟨g1,g2⟩:=hp i hi
  rcases hc with⟨hc,_⟩|⟨_,hc,_⟩
  ·rw[g1] at hc;cases hc
  ·rw[g2] at hc;cases hc
 ·exact h
theorem fault_long {xs:List ByteArray}{c:Nat}{pl:Int}(hf:IsFault xs c pl)(h12:12<xs.length):c=2∧pl = -1:=by
 rcases hf with⟨_,h⟩|⟨h,_⟩|⟨h,_⟩
 ·exact h
 ·exact absurd h12 h
 ·exact absurd h12 h
theorem strs_take {w:World}{b o c:Nat}{xs:List ByteArray}(hcap:xs.length≤c)(hx:∀k (h:k<xs.length),w.cell? ⟨b,o+k,none⟩=some (.string xs[k]))(k:Nat)(hk:k≤xs.length):Strs w (.slice (some ⟨b,o,none⟩) k c) (xs.take k):=by
 have hl:(xs.take k).length=k:=by simp;omega
 refine Or.inr ⟨b,o,c,by rw[hl],by omega,fun j hj=>?_⟩
 rw[hx j (by omega)]
 simp
theorem check_zero (p:Option Addr)(cap:Nat)(w:World) :
  Calls Tryz.prog 137 #[.slice p 0 cap] w fun e w'=>e=.returned .nilIface∧w'=w:=by
 go_enter Tryz.func137,Tryz.ntmps137
 go_wp2
 refine wp_loop_rounds 1 ?_
 rw[rounds_succ]
 go_wp2
 go_ret
 exact⟨rfl,rfl⟩
namespace Lh
theorem bt_append (a b:List UInt8):bt a++bt b=bt (a++b):=ByteArray.mk_append_mk a b
theorem bt_extract (l:List UInt8)(i j:Nat):(bt l).extract i j=bt ((l.drop i).take (j - i)):=ByteArray.extract_mk l i j
theorem bt_size (l:List UInt8):(bt l).size=l.length:=by simp[bt,ByteArray.size]
theorem hexL_cons:∀k n,hexL (k+1) n=hxU (n / 16 ^ k % 16) :: hexL k n
 | 0,n=>by simp[hexL]
 | k+1,n=>by
  show hexL (k+1) (n / 16)++[hxU (n % 16)]=_
  rw[hexL_cons k (n / 16)]
  show hxU (n / 16 / 16 ^ k % 16) :: (hexL k (n / 16)++[hxU (n % 16)])=_
  rw[Nat.div_div_eq_div_mul,show 16*16 ^ k=16 ^ (k+1) by rw[Nat.pow_succ];omega]
  rfl
def digs:List UInt8:=[48,49,50,51,52,53,54,55,56,57,97,98,99,100,101,102]
theorem digs_at:∀d:Fin 16,(digs.drop d.1).take (d.1+1 - d.1)=[hxU d.1]:=by decide
end Lh
theorem hexM_any (n k:Nat)(hn:n<18446744073709551616)(hk:k≤16)(W:World) :
  Calls Tryz.prog 125 #[.int .u64 (n:Nat),.int .i64 (k:Nat)] W fun e w'=>e=.returned (.string (Lh.bt (Lh.hexL k n)))∧w'=W:=by
 go_enter Tryz.func125,Tryz.ntmps125
 go_wp2_with fail
 go_loop [0,5,6,7] (fun u0 u5 u6 _=>∃i:Nat,i≤k∧u6=.int .i64 (i:Nat)∧u0=.int .u64 ((n / 16 ^ i:Nat):Int)∧u5=.string (Lh.bt (Lh.hexL i n))) (fun _ _ u6 _=>k - (intOf u6).toNat)
 case atStart=>exact⟨0,Nat.zero_le _,rfl,by simp,rfl⟩
 case round =>
  obtain⟨i,hi,rfl,rfl,rfl⟩:=hrel
  by_cases hlt:i<k
  ·have hii:(i:Int)<(k:Int):=by omega
   have HC:Hid (Lh.hexL (i+1) n=Lh.hxU (n / 16 ^ i % 16) :: Lh.hexL i n):=Lh.hexL_cons i n
   have HD:Hid (n / 16 ^ (i+1)=n / 16 ^ i / 16):=by
    show _=_
    rw[Nat.pow_succ,Nat.div_div_eq_div_mul]
   have hz:n / 16 ^ i<18446744073709551616:=Nat.lt_of_le_of_lt (Nat.div_le_self _ _) hn
   have hsl:(Lh.hexL i n).length≤16:=by rw[Lh.hexL_len];omega
   have hsz:=Lh.bt_size (Lh.hexL i n)
   generalize n / 16 ^ i=z at *
   generalize Lh.hexL i n=out at *
   obtain⟨d,hd⟩:∃d,z % 16=d:=⟨_,rfl⟩
   have hd16:d<16:=by omega
   have hr:(z:Int) % 16=(d:Int):=by omega
   have HDD:Hid (z % 16=d):=hd
   clear hd
   go_wp2
   refine⟨⟨i+1,by omega,by go_num,?_,?_⟩,by simp[intOf];omega⟩
   ·rw[HD.out]
    first|rfl|simp
   ·rw[HC.out,HDD.out]
    have e1:=Lh.bt_extract Lh.digs d (d+1)
    have e2:=Lh.digs_at ⟨d,hd16⟩
    dsimp only at e2
    rw[e2] at e1
    have e3:=Lh.bt_append [Lh.hxU d] out
    rw[←e1] at e3
    exact congrArg Value.string e3
  ·have hii:decide ((i:Int)<(k:Int))=false:=by simp;omega
   have hie:i=k:=by omega
   subst hie
   go_wp2
   go_ret
   exact⟨rfl,rfl⟩
end Go.Proofs.YtfhmfjcpggddkaaGreatDoor
