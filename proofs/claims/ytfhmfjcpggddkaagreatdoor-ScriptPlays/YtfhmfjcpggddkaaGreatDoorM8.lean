/- A page's line: words, with blanks between them, and a line break. -/
import Derived.Test.YtfhmfjcpggddkaaGreatDoorM7
import Derived.Test.YtfhmfjcpggddkaaGreatDoorM3
import Derived.Deep.RegionHeld3
import Derived.Test.YtfhmfjcpggddkaaGreatDoorM2
import Derived.Laws.BytesString
import Derived.Lib.Builder
import Derived.Shelf.Strings.BuilderK
import Derived.Test.YtfhmfjcpggddkaaGreatDoorM5
import Derived.Lib.ConvBytes
import Derived.Test.YtfhmfjcpggddkaaGreatDoorM4
set_option maxHeartbeats 20000000
set_option maxRecDepth 100000
namespace Go.Proofs.YtfhmfjcpggddkaaGreatDoor
open Go.RowKit
theorem Pg.later {B b:Nat}{l:List UInt8}{w w':World}(h:Pg B b l w)(hb:Below w.heap.size w w'):Pg B b l w':=by
 have key:∀p,Lib.BuilderAtF 285 5 B b p (Lib.byteCells l) w→Lib.BuilderAtF 285 5 B b p (Lib.byteCells l) w':=by
  rintro p ⟨hB,v,hbk,hown,hne⟩
  refine⟨hB,v,(hb.block b (block_lt hbk)).trans hbk,⟨hown.1,?_⟩,hne⟩
  rcases hown.2 with h1|⟨g,cap,cur,fz,hv,hg,hgh,r⟩
  ·exact Or.inl h1
  ·exact Or.inr ⟨g,cap,cur,fz,hv,hg,(hb.block g (block_lt hgh)).trans hgh,r⟩
 exact h.elim (fun x=>Or.inl (key _ x)) (fun x=>Or.inr (key _ x))
theorem Pg.base {B b:Nat}{l:List UInt8}{w:World}(h:Pg B b l w):B≤b∧b<w.heap.size:=by
 rcases h with⟨hB,v,hbk,_⟩|⟨hB,v,hbk,_⟩
 ·exact⟨hB,block_lt hbk⟩
 ·exact⟨hB,block_lt hbk⟩
theorem Pg.made (w:World):Pg w.heap.size w.heap.size [] (w.alloc (.cells #[.pointer none,.slice none 0 0] 285)) :=
 Or.inl ⟨Nat.le_refl _,.slice none 0 0,heap_newC w _,⟨rfl,Or.inl ⟨rfl,rfl⟩⟩,by simp[Value.ownBlock]⟩
theorem line_core (B b:Nat)(l j:List UInt8)(v:Value)(w:World)(h:Pg B b l w)(hBw:B≤w.heap.size)(hl:l.length≤100000)(hj:j.length≤100000)
  (hJ:∀W,Below w.heap.size w W→Calls Tryz.prog 42 #[v,.string (Lh.bt [32])] W fun e w'=>e=.returned (.string (Lh.bt j))∧Below W.heap.size W w') :
  Calls Tryz.prog 209 #[.pointer (some ⟨b,0,none⟩),v] w fun e w'=>e=.returned (.tuple #[])∧Pg B b (l++(j++[10])) w'∧Below B w w'∧Lib.OthersKept 5 (some b) w w':=by
 have HJ:Hid (∀W,Below w.heap.size w W→Calls Tryz.prog 42 #[v,.string (Lh.bt [32])] W fun e w'=>e=.returned (.string (Lh.bt j))∧Below w.heap.size w w'∧Below B w w'):=fun W hW=>(hJ W hW).mono fun _ _ ⟨q1,q2⟩=>⟨q1,below_then hW q2,(below_then hW q2).mono hBw⟩
 have HW:Hid (∀W,Below w.heap.size w W→Calls Tryz.prog 93 #[.pointer (some ⟨b,0,none⟩),.string (Lh.bt j)] W fun e w'=>e=.returned (.tuple #[.int .i64 (j.length:Nat),.nilIface])∧Pg B b (l++j) w'∧Below B w w'∧Lib.OthersKept 5 (some b) w w'):=fun W hW=>(pgText B b l j W (h.later hW) (by omega) (Nat.le_trans hBw hW.size)).mono fun _ _ ⟨q1,q2,q3,q4⟩=>⟨q1,q2,(hW.mono hBw).trans q3,(okept_of hW).trans q4⟩
 clear h hJ
 go_enter Tryz.func209,Tryz.ntmps209
 go_wp2_with fail
 go_region_held3 (fun w'=>Below B w w')
  (first|assumption|exact Below.refl _ _|exact below_drewN (Below.refl _ _) 1)
  (first
   | (go_at_call 42;refine (HJ.out _ (by first|assumption|exact Below.refl _ _|exact below_drewN (Below.refl _ _) 1)).mono ?_;rintro e w1 ⟨rfl,hb1,hb1'⟩)
   | (go_at_call 93;refine (HW.out _ (by first|assumption|exact Below.refl _ _|exact below_drewN (Below.refl _ _) 1)).mono ?_;rintro e w2 ⟨rfl,hp2,hb2,hk2⟩))
 all_goals
  have HB:=pgByte B b (l++j) 10 w2 hp2 (by simp;omega) (Nat.le_trans hBw hb2.size)
  go_wp2_with fail
  refine HB.mono ?_
  rintro e w3 ⟨rfl,hp3,hb3,hk3⟩
  clear HB
  go_wp2
  go_end0
  refine⟨rfl,by rw[←List.append_assoc];exact hp3,hb2.trans hb3,hk2.trans hk3⟩
theorem line3_any (B b:Nat)(l x y z:List UInt8)(w:World)(h:Pg B b l w)(hBw:B≤w.heap.size)(hl:l.length≤100000)(hj:(Lh.joinL 32 [x,y,z]).length≤100000) :
  Calls Tryz.prog 209 #[.pointer (some ⟨b,0,none⟩),.slice (some ⟨w.heap.size,0,none⟩) 3 3] (w.alloc (.cells #[.string (Lh.bt x),.string (Lh.bt y),.string (Lh.bt z)] 9)) fun e w'=>e=.returned (.tuple #[])∧Pg B b (l++(Lh.joinL 32 [x,y,z]++[10])) w'∧Below B w w'∧Lib.OthersKept 5 (some b) w w':=by
 have hb0:=(Below.refl w.heap.size w).alloc (Nat.le_refl _) (.cells #[.string (Lh.bt x),.string (Lh.bt y),.string (Lh.bt z)] 9)
 refine (line_core B b l (Lh.joinL 32 [x,y,z]) _ _ (h.later hb0) (Nat.le_trans hBw hb0.size) hl hj fun W hW=>?_).mono fun e w' ⟨q1,q2,q3,q4⟩=>⟨q1,q2,(hb0.mono hBw).trans q3,(okept_of hb0).trans q4⟩
 exact join3_any w.heap.size 3 x y z W (below_cell hW (by simp)) (below_cell hW (by simp)) (below_cell hW (by simp)) (by have:=hW.size;simp at this;omega) (Nat.le_refl _) (by omega)
theorem line2_any (B b:Nat)(l x y:List UInt8)(w:World)(h:Pg B b l w)(hBw:B≤w.heap.size)(hl:l.length≤100000)(hj:(Lh.joinL 32 [x,y]).length≤100000) :
  Calls Tryz.prog 209 #[.pointer (some ⟨b,0,none⟩),.slice (some ⟨w.heap.size,0,none⟩) 2 2] (w.alloc (.cells #[.string (Lh.bt x),.string (Lh.bt y)] 9)) fun e w'=>e=.returned (.tuple #[])∧Pg B b (l++(Lh.joinL 32 [x,y]++[10])) w'∧Below B w w'∧Lib.OthersKept 5 (some b) w w':=by
 have hb0:=(Below.refl w.heap.size w).alloc (Nat.le_refl _) (.cells #[.string (Lh.bt x),.string (Lh.bt y)] 9)
 refine (line_core B b l (Lh.joinL 32 [x,y]) _ _ (h.later hb0) (Nat.le_trans hBw hb0.size) hl hj fun W hW=>?_).mono fun e w' ⟨q1,q2,q3,q4⟩=>⟨q1,q2,(hb0.mono hBw).trans q3,(okept_of hb0).trans q4⟩
 exact join2_any w.heap.size 2 x y W (below_cell hW (by simp)) (below_cell hW (by simp)) (by have:=hW.size;simp at this;omega) (Nat.le_refl _) (by omega)
theorem tz16 (w:World)(h:w.cell? ⟨15,15,none⟩=some (.int .u8 4)) :
  Calls Tryz.prog 252 #[.int .u64 16] w fun e w'=>e=.returned (.int .i64 4)∧w'=w:=by
 have e1:IntKind.u64.wrap (-16)=18446744073709551600:=by decide
 have e2:bits .and .u64 16 18446744073709551600=16:=by decide
 have e3:IntKind.u64.wrap 4573923408821661840=4573923408821661840:=by decide
 go_enter Tryz.func252,Tryz.ntmps252
 go_wp2
 go_ret
 exact⟨rfl,rfl⟩
theorem push_fold:∀(l p:List UInt8),(l.map fun c=>(c.toNat:Int)).foldl (fun r n=>r.push (UInt8.ofNat n.toNat)) (Lh.bt p)=Lh.bt (p++l)
 | [],p=>by simp
 | c :: l,p=>by
  show (l.map fun c=>(c.toNat:Int)).foldl _ ((Lh.bt p).push (UInt8.ofNat ((c.toNat:Int)).toNat))=_
  have e:(Lh.bt p).push (UInt8.ofNat ((c.toNat:Int)).toNat)=Lh.bt (p++[c]):=by
   rw[Int.toNat_natCast,UInt8.ofNat_toNat]
   simp[Lh.bt,ByteArray.push]
  rw[e,push_fold l (p++[c])]
  simp
theorem addrC (b o j:Nat):(⟨b,o,none⟩:Addr).add j=⟨b,o+j,none⟩:=by unfold Addr.add;split<;>simp_all
theorem conv_bytes (w:World)(b o cap:Nat)(l:List UInt8)(h:∀j (hj:j<l.length),w.cell? ⟨b,o+j,none⟩=some (.int .u8 (l[j].toNat:Nat))) :
  (convert 143 9 (.slice (some ⟨b,o,none⟩) l.length cap)).run Tryz.prog w=.ok (.string (Lh.bt l)) w:=by
 have hl:=run_loadCells_list (P:=Tryz.prog) w ⟨b,o,none⟩ ((l.map fun c=>(c.toNat:Int)).map (Value.int .u8)) (fun j v hv=>by
  rw[List.getElem?_map,List.getElem?_map] at hv
  have hj:j<l.length:=by
   rcases Nat.lt_or_ge j l.length with h'|h'
   ·exact h'
   ·rw[List.getElem?_eq_none h'] at hv;cases hv
  rw[List.getElem?_eq_getElem hj] at hv
  cases hv
  rw[addrC]
  exact h j hj)
 simp only[List.length_map] at hl
 rw[run_convert_bytes_string _ _ _ _ _ _ _ Tryz.underlying143 Tryz.underlying5 Tryz.underlying9,run_bytesToString _ ⟨b,o,none⟩ l.length cap (l.map fun c=>(c.toNat:Int)) hl]
 have e:=push_fold l []
 rw[List.nil_append] at e
 rw[←e]
 rfl
structure Fb (w W:World)(k:Nat)(l:List UInt8):Prop where
 below:Below w.heap.size w W
 heap:∃cs,W.heap[w.heap.size]?=some (.cells cs 319 (0,0))∧cs.size=65
 len:l.length=k
 cell:∀j (hj:j<l.length),W.cell? ⟨w.heap.size,65 - k+j,none⟩=some (.int .u8 (l[j].toNat:Nat))
abbrev dg36:ByteArray:=⟨#[48,49,50,51,52,53,54,55,56,57,97,98,99,100,101,102,103,104,105,106,107,108,109,110,111,112,113,114,115,116,117,118,119,120,121,122]⟩
theorem dg36_at:∀d:Fin 16,(dg36[d.1]'(Nat.lt_of_lt_of_le d.2 (by decide)))=Lh.hxU d.1:=by decide
theorem Fb.put {w W:World}{k:Nat}{l:List UInt8}(h:Fb w W k l)(hk:k≤15)(c:UInt8):Fb w (W.setCell ⟨w.heap.size,65 - k - 1,none⟩ (.int .u8 (c.toNat:Nat))) (k+1) (c :: l):=by
 obtain⟨cs,hh,hs⟩:=h.heap
 have hold:W.cell? ⟨w.heap.size,65 - k - 1,none⟩=some (cs[65 - k - 1]'(by omega)):=by
  rw[Lib.cell_of_heap hh]
  exact Array.getElem?_eq_getElem (by omega)
 refine⟨h.below.setCell (p:=⟨w.heap.size,65 - k - 1,none⟩) (Nat.le_refl _) _,?_,by simp[h.len],fun j hj=>?_⟩
 ·refine⟨cs.setIfInBounds (65 - k - 1) (.int .u8 (c.toNat:Nat)),?_,by simp[hs]⟩
  simp[World.setCell,Array.getElem?_modify,hh]
 ·match j,hj with
  | 0,_ =>
   rw[show 65 - (k+1)+0=65 - k - 1 by omega]
   exact World.cell?_setCell_same _ _ _ hold
  | j+1,hj =>
   have hj':j<l.length:=by simpa using hj
   rw[show 65 - (k+1)+(j+1)=65 - k+j by omega,World.cell?_setCell_other _ _ _ _ (by
    intro e
    have:=congrArg Addr.off e
    simp only at this
    omega)]
   exact h.cell j hj'
theorem u64_of (a:Nat)(h:a<18446744073709551616):(BitVec.ofInt 64 (a:Int)).toNat=a:=by
 rw[BitVec.ofInt_natCast,BitVec.toNat_ofNat];exact Nat.mod_eq_of_lt (by omega)
theorem and15 (a:Nat)(h:a<18446744073709551616):bits .and .u64 (a:Int) 15=((a % 16:Nat):Int):=by
 show IntKind.u64.wrap ((BitVec.ofInt 64 (a:Int) &&& BitVec.ofInt 64 ((15:Nat):Int)).toNat:Int)=_
 rw[BitVec.toNat_and,u64_of a h,u64_of 15 (by decide),IntKind.wrap_u64,show (15:Nat)=2 ^ 4 - 1 by rfl,Nat.and_two_pow_sub_one_eq_mod]
 omega
theorem fbits_any (n:Nat)(hn:n<18446744073709551616)(w:World)(h:w.cell? ⟨15,15,none⟩=some (.int .u8 4)) :
  Calls Tryz.prog 207 #[.slice none 0 0,.int .u64 (n:Nat),.int .i64 16,.bool false,.bool false] w fun e w'=>e=.returned (.tuple #[.slice none 0 0,.string (Lh.bt (Lh.hexD n))])∧Below w.heap.size w w':=by
 have hb8:bits .and .i64 16 15=0:=by decide
 go_enter Tryz.func207,Tryz.ntmps207
 go_wp2_with (first|(go_at_call 251;go_in))
 refine (tz16 _ ?_).mono ?_
 ·exact below_cell ((Below.refl _ _).alloc (Nat.le_refl _) _) h
 rintro e w1 ⟨rfl,rfl⟩
 clear hb8 h
 go_wp2_with fail
 go_loopw [1,13] (fun u1 u13 W=>∃v k l,Fb w W k l∧Hid (Lh.hexD n=Lh.hexD v++l)∧v<18446744073709551616∧u1=.int .u64 (v:Nat)∧u13=.int .i64 ((65 - k:Nat):Int)) (fun u1 _ _=>(intOf u1).toNat)
 case atStart=>exact⟨n,0,[],⟨(Below.refl _ _).alloc (Nat.le_refl _) _,⟨_,heap_newC w _,rfl⟩,rfl,fun j hj=>absurd hj (by simp)⟩,Lib.hid (by simp),hn,rfl,rfl⟩
 case round =>
  obtain⟨v,k,l,hF,HQ,hv,rfl,rfl⟩:=hrel
  have hk:k≤15:=by
   have h1:=(Lh.hexD_fill 15 n hn).1
   rw[HQ.out,List.length_append,hF.len] at h1
   have:=Lh.hexD_pos v
   omega
  obtain⟨cs,hcs,hcz⟩:=hF.heap
  have hcell:∃u,wr.cell? ⟨w.heap.size,65 - k - 1,none⟩=some u:=by
   rw[Lib.cell_of_heap hcs]
   exact⟨_,Array.getElem?_eq_getElem (by omega)⟩
  obtain⟨u0,hcell⟩:=hcell
  have hfz:wr.frozen? ⟨w.heap.size,65 - k - 1,none⟩=false:=Lib.frozen_of_heap hcs _
  have HF:Hid (Fb w wr k l):=hF
  clear hF hcs hcz
  have hi1:((65 - k:Nat):Int) - 1=((65 - k - 1:Nat):Int):=by omega
  by_cases h16:16≤v
  ·have hvi:(16:Int)≤(v:Int):=by omega
   have ha:=and15 v hv
   have HV:Hid (Lh.hexD n=Lh.hexD (v / 16)++(Lh.hxU (v % 16) :: l)):=by
    have e1:=HQ.out
    rw[Lh.hexD_big (n:=v) (by omega)] at e1
    have e2:Lh.hexD n=Lh.hexD (v / 16)++(Lh.hxU (v % 16) :: l):=by rw[e1];simp
    exact e2
   go_wp2
   refine⟨⟨v / 16,k+1,Lh.hxU (v % 16) :: l,?_,HV,by omega,rfl,by congr 1⟩,by simp[intOf];omega⟩
   have e3:=HF.out.put hk (Lh.hxU (v % 16))
   have e4:=dg36_at ⟨v % 16,Nat.mod_lt _ (by decide)⟩
   rw[←e4] at e3 ⊢
   exact e3
  ·have hvi:decide ((16:Int)≤(v:Int))=false:=by simp;omega
   have HV:Hid (Lh.hexD n=Lh.hxU v :: l):=by
    have e1:=HQ.out
    rw[Lh.hexD_small (n:=v) (by omega)] at e1
    exact e1
   have e4:(dg36[v]'(Nat.lt_of_lt_of_le (show v<16 by omega) (by decide)))=Lh.hxU v:=dg36_at ⟨v,by omega⟩
   have hfin:=HF.out.put hk (Lh.hxU v)
   rw[←e4] at hfin
   have hlen:=hfin.len
   have hcv:=conv_bytes _ w.heap.size (65 - k - 1) (k+1) (dg36[v]'(Nat.lt_of_lt_of_le (show v<16 by omega) (by decide)) :: l) (fun j hj=>by
    have:=hfin.cell j hj
    rw[show 65 - (k+1)=65 - k - 1 by omega] at this
    exact this)
   have HFB:Hid (Below w.heap.size w (wr.setCell ⟨w.heap.size,65 - k - 1,none⟩ (.int .u8 ((dg36[v]'(Nat.lt_of_lt_of_le (show v<16 by omega) (by decide))).toNat:Nat)))):=hfin.below
   have hr:Lh.bt (dg36[v]'(Nat.lt_of_lt_of_le (show v<16 by omega) (by decide)) :: l)=Lh.bt (Lh.hexD n):=by rw[e4,HV.out]
   rw[hlen,hr] at hcv
   have hsl:∀W,(Instr.sliceAt 319 (.pointer (some ⟨w.heap.size,0,none⟩)) (some (.int .i64 ((65 - k - 1:Nat):Int))) none none).run Tryz.prog W=.ok (.slice (some ⟨w.heap.size,65 - k - 1,none⟩) (k+1) (k+1)) W:=by
    intro W
    have hal:Tryz.prog.arrayLen 319=65:=by kernel_rfl
    have hel:Tryz.prog.elem 319=5:=by kernel_rfl
    rw[run_sliceAt_array_l W 319 ⟨w.heap.size,0,none⟩ (by kernel_rfl) .i64 _ (by omega) (by rw[hal];omega),hal,hel,Tryz.sizeOf5]
    simp only[Result.andThen,slicedAt,Int.toNat_natCast,Nat.mul_one]
    rw[if_neg (by omega),show 65 - (65 - k - 1)=k+1 by omega]
    rw[addrC,Nat.zero_add]
   clear hfin hlen e4 hr
   go_wp2
   go_ret2
   exact⟨rfl,HFB.out⟩
theorem fmt_any (n:Nat)(hn:n<18446744073709551616)(w:World)(h:w.cell? ⟨15,15,none⟩=some (.int .u8 4)) :
  Calls Tryz.prog 104 #[.int .u64 (n:Nat),.int .i64 16] w fun e w'=>e=.returned (.string (Lh.bt (Lh.hexD n)))∧Below w.heap.size w w':=by
 have hf:=fbits_any n hn w h
 go_enter Tryz.func104,Tryz.ntmps104
 go_wp2_with (first|(go_at_call 162;go_in)|(go_at_call 207;refine hf.mono ?_;rintro e w1 ⟨rfl,hb1⟩))
 go_ret
 exact⟨rfl,hb1⟩
theorem hexT_any {a:Nat→Addr}(n d:Nat)(hd:d≤16)(hd0:0<d)(hn:n<16 ^ d)(w:World)(he:EC a w) :
  Calls Tryz.prog 210 #[.int .u64 (n:Nat),.int .i64 (d:Nat)] w fun e w'=>e=.returned (.string (Lh.bt (Lh.hexL d n)))∧Below w.heap.size w w':=by
 have hn64:n<18446744073709551616:=Nat.lt_of_lt_of_le hn (Nat.le_trans (Nat.pow_le_pow_right (by decide) hd) (by decide))
 have hf:=fmt_any n hn64 w he.brj
 obtain⟨hl,hfill⟩:(Lh.hexD n).length≤d∧List.replicate (d - (Lh.hexD n).length) 48++Lh.hexD n=Lh.hexL d n:=by
  obtain⟨k,rfl⟩:∃k,d=k+1:=⟨d - 1,by omega⟩
  exact Lh.hexD_fill k n hn
 have HF:Hid (List.replicate (d - (Lh.hexD n).length) 48++Lh.hexD n=Lh.hexL d n):=hfill
 have hsz:(Lh.bt (Lh.hexD n)).size=(Lh.hexD n).length:=by simp[Lh.bt,ByteArray.size]
 clear hfill he
 go_enter Tryz.func210,Tryz.ntmps210
 go_wp2_with fail
 refine hf.mono ?_
 rintro e w1 ⟨rfl,hb1⟩
 clear hf
 have hr:=repeat_any (d - (Lh.hexD n).length) (by omega) w1
 have hsub:(d:Int) - ((Lh.hexD n).length:Int)=((d - (Lh.hexD n).length:Nat):Int):=by omega
 have hs2:(Lh.bt (List.replicate (d - (Lh.hexD n).length) 48)).size+(Lh.bt (Lh.hexD n)).size≤1000:=by
  simp[Lh.bt,ByteArray.size]
  omega
 go_wp2_with fail
 refine hr.mono ?_
 rintro e w2 ⟨rfl,hb2⟩
 clear hr
 go_wp2
 go_ret
 refine⟨?_,below_then hb1 hb2⟩
 rw[←HF.out,←Lh.bt_append]
 rfl
theorem u32_of (a:Nat)(h:a<2 ^ 32):(BitVec.ofInt 32 (a:Int)).toNat=a:=by
 rw[BitVec.ofInt_natCast,BitVec.toNat_ofNat];exact Nat.mod_eq_of_lt (by omega)
theorem xorU32 (a b:Nat)(ha:a<2 ^ 32)(hb:b<2 ^ 32):bits .xor .u32 (a:Int) (b:Int)=((a ^^^ b:Nat):Int):=by
 have hx:a ^^^ b<2 ^ 32:=Nat.xor_lt_two_pow ha hb
 show IntKind.u32.wrap ((BitVec.ofInt 32 (a:Int) ^^^ BitVec.ofInt 32 (b:Int)).toNat:Int)=_
 rw[BitVec.toNat_xor,u32_of a ha,u32_of b hb,IntKind.wrap_u32]
 omega
theorem and1U (a:Nat)(ha:a<2 ^ 32):bits .and .u32 (a:Int) 1=((a % 2:Nat):Int):=by
 show IntKind.u32.wrap ((BitVec.ofInt 32 (a:Int) &&& BitVec.ofInt 32 ((1:Nat):Int)).toNat:Int)=_
 rw[BitVec.toNat_and,u32_of a ha,u32_of 1 (by decide),IntKind.wrap_u32,Nat.and_one_is_mod]
 omega
theorem sumOf_any (s:List UInt8)(hs:s.length≤100000)(W:World) :
  Calls Tryz.prog 211 #[.string (Lh.bt s)] W fun e w'=>e=.returned (.int .u32 ((Lh.crcL s:Nat):Int))∧w'=W:=by
 go_enter Tryz.func211,Tryz.ntmps211
 have hsz:=Lh.bt_size s
 go_wp2_with fail
 go_loop [3,8] (fun u3 u8=>∃i:Nat,i≤s.length∧u8=.int .i64 (i:Nat)∧u3=.int .u32 (((s.take i).foldl Lh.crcByte 4294967295:Nat):Int)) (fun _ u8=>s.length - (intOf u8).toNat)
 case atStart=>exact⟨0,Nat.zero_le _,rfl,rfl⟩
 case round =>
  obtain⟨i,hi,rfl,rfl⟩:=hrel
  by_cases hlt:i<s.length
  ·have hii:(i:Int)<(s.length:Int):=by omega
   have hbs:i<(Lh.bt s).size:=by rw[hsz];exact hlt
   obtain⟨b,hb⟩:∃b,(Lh.bt s)[i]=b:=⟨_,rfl⟩
   have hb2:s[i]=b:=hb
   have HSU:Hid ((s.take (i+1)).foldl Lh.crcByte 4294967295=Lh.crcByte ((s.take i).foldl Lh.crcByte 4294967295) b):=fold_take Lh.crcByte 4294967295 hlt hb2
   have hc32:(s.take i).foldl Lh.crcByte 4294967295<2 ^ 32:=Lh.crcFold_lt _ (by decide)
   generalize (s.take i).foldl Lh.crcByte 4294967295=c at *
   have hbt:=b.toNat_lt
   have hx0:=xorU32 c b.toNat hc32 (by omega)
   have hbw:IntKind.u32.wrap (b.toNat:Int)=(b.toNat:Int):=by rw[IntKind.wrap_u32];omega
   have HCX:Hid (c ^^^ b.toNat<2 ^ 32):=Lh.crcX_lt hc32 b
   have HBY:Hid (Lh.crcByte c b=(List.range 8).foldl (Lh.crcBit 0) (c ^^^ b.toNat)):=Lh.crcByte_xor c b
   go_wp2_with fail
   go_loop [3,17] (fun u3 u17=>∃k:Nat,k≤8∧u17=.int .i64 (k:Nat)∧u3=.int .u32 (((List.range k).foldl (Lh.crcBit 0) (c ^^^ b.toNat):Nat):Int)) (fun _ u17=>8 - (intOf u17).toNat)
   case atStart=>exact⟨0,Nat.zero_le _,rfl,rfl⟩
   case round =>
    obtain⟨k,hk,rfl,rfl⟩:=hrel
    by_cases hk8:k<8
    ·have hki:(k:Int)<8:=by omega
     have hd32:(List.range k).foldl (Lh.crcBit 0) (c ^^^ b.toNat)<2 ^ 32:=Lh.crcK_lt _ HCX.out
     have HSK:Hid ((List.range (k+1)).foldl (Lh.crcBit 0) (c ^^^ b.toNat)=Lh.crcBit 0 ((List.range k).foldl (Lh.crcBit 0) (c ^^^ b.toNat)) k):=fold_range (Lh.crcBit 0) (c ^^^ b.toNat) k
     generalize (List.range k).foldl (Lh.crcBit 0) (c ^^^ b.toNat)=d at *
     have ha1:=and1U d hd32
     have hd2:((d:Int) / 2)=((d / 2:Nat):Int):=by omega
     have hx2:=xorU32 (d / 2) 3988292384 (by omega) (by decide)
     have e0:(d ^^^ (0 >>> k))=d:=by simp
     cases hbit:(bits .and .u32 (d:Int) 1==1) with
     | true =>
      have HB:Hid (d % 2=1):=by
       rw[ha1] at hbit
       have:((d % 2:Nat):Int)=1:=by simpa using hbit
       show _=1
       omega
      have HX3:Hid (bits .xor .u32 ((d:Int) / 2) 3988292384=((d / 2 ^^^ 3988292384:Nat):Int)):=by
       have:bits .xor .u32 ((d:Int) / 2) 3988292384=((d / 2 ^^^ 3988292384:Nat):Int):=by rw[hd2];exact hx2
       exact this
      have HE0:Hid ((d ^^^ (0 >>> k))=d):=e0
      clear ha1 hd2 hx2 e0 hx0 hbw hb hb2
      go_wp2
      refine⟨⟨k+1,by omega,by go_num,?_⟩,by simp[intOf];omega⟩
      rw[HX3.out,HSK.out]
      unfold Lh.crcBit
      rw[HE0.out,if_pos HB.out]
     | false =>
      have HB:Hid (¬d % 2=1):=by
       rw[ha1] at hbit
       show ¬_
       intro e
       rw[e] at hbit
       cases hbit
      have HD2:Hid (((d:Int) / 2)=((d / 2:Nat):Int)):=hd2
      have HE0:Hid ((d ^^^ (0 >>> k))=d):=e0
      clear ha1 hd2 hx2 e0 hx0 hbw hb hb2
      go_wp2
      refine⟨⟨k+1,by omega,by go_num,?_⟩,by simp[intOf];omega⟩
      rw[HD2.out,HSK.out]
      unfold Lh.crcBit
      rw[HE0.out,if_neg HB.out]
    ·have hk9:k=8:=by omega
     have hki:decide ((k:Int)<8)=false:=by simp;omega
     have HK8:Hid ((List.range k).foldl (Lh.crcBit 0) (c ^^^ b.toNat)=Lh.crcByte c b):=by
      have:(List.range k).foldl (Lh.crcBit 0) (c ^^^ b.toNat)=Lh.crcByte c b:=by rw[hk9,HBY.out]
      exact this
     clear hk9
     generalize (List.range k).foldl (Lh.crcBit 0) (c ^^^ b.toNat)=d at *
     clear hx0 hbw hb hb2
     go_wp2
     refine⟨⟨i+1,by omega,by go_num,?_⟩,by simp[intOf];omega⟩
     rw[HSU.out,HK8.out]
  ·have hii:decide ((i:Int)<(s.length:Int))=false:=by simp;omega
   have hie:i=s.length:=by omega
   have HR:Hid ((s.take i).foldl Lh.crcByte 4294967295=Lh.crcRaw s):=by rw[hie,List.take_length];rfl
   have hc32:(s.take i).foldl Lh.crcByte 4294967295<2 ^ 32:=Lh.crcFold_lt _ (by decide)
   clear hie
   generalize (s.take i).foldl Lh.crcByte 4294967295=c at *
   have HX:Hid (bits .xor .u32 IntKind.u32.max (c:Int)=((Lh.crcL s:Nat):Int)):=by
    have e1:bits .xor .u32 IntKind.u32.max (c:Int)=((4294967295 ^^^ c:Nat):Int):=xorU32 4294967295 c (by decide) hc32
    have e2:Lh.crcL s=c ^^^ 4294967295:=by rw[HR.out];rfl
    have e3:bits .xor .u32 IntKind.u32.max (c:Int)=((Lh.crcL s:Nat):Int):=by rw[e1,e2,Nat.xor_comm]
    exact e3
   go_wp2
   go_ret
   refine⟨?_,rfl⟩
   rw[←HX.out]
   rfl
theorem ErrIs.zero {a:Nat→Addr}{W:World}{pl:Int}{v:Value}(h:ErrIs a W 0 pl v):v=.nilIface:=by
 rcases h with⟨_,_,h⟩|⟨i,_,h,_⟩
 ·exact h
 ·exact absurd h (by omega)
theorem ErrIs.box {a:Nat→Addr}{W:World}{c:Nat}{pl:Int}{v:Value}(h:ErrIs a W c pl v)(hc:c≠0):∃t p,v=.iface t p:=by
 rcases h with⟨h,_⟩|⟨i,_,_,⟨_,h⟩|⟨b,h,_⟩⟩
 ·exact absurd h hc
 ·exact⟨_,_,h⟩
 ·exact⟨_,_,h⟩
theorem line_step {l:List Lh.Fl}{i:Nat}(hil:i<l.length)(hg:GoodF l i hil)(hin:FlIn l):∃(k:Nat) (s:ByteArray) (q:Nat),(l[i]).1=k∧(l[i]).2.1=s∧(l[i]).2.2=(q:Int)∧k<18446744073709551616∧q<100000000000000∧(Lh.joinL 32 [Lh.hexL 16 k,s.data.toList,Lh.decL q]).length≤92 ∧
  ∀H:List UInt8,H++Lh.rowsB (l.take (i+1))=H++Lh.rowsB (l.take i)++(Lh.joinL 32 [Lh.hexL 16 k,s.data.toList,Lh.decL q]++[10]):=by
 obtain⟨g1,g2,g3,_⟩:=hg
 have hnm:=(nm_word g1).2.2.2
 have hx:=(hin _ (List.getElem_mem hil)).1
 have hl:=Lh.lineF_len (x:=l[i]) (by omega) (by omega)
 have hr:=Lh.rowsB_take hil
 obtain⟨x,ex⟩:∃x,l[i]'hil=x:=⟨_,rfl⟩
 rw[ex] at g1 g2 g3 hx hl hr
 rw[ex]
 clear ex hnm
 obtain⟨k,s,u⟩:=x
 obtain⟨q,rfl⟩:∃q:Nat,u=(q:Int):=⟨u.toNat,by simp only at g2;omega⟩
 refine⟨k,s,q,rfl,rfl,rfl,hx,by simp only at g3;omega,?_,fun H=>?_⟩
 ·simpa [Lh.lineF] using hl
 ·rw[hr,←List.append_assoc]
  simp[Lh.lineF]
theorem text_carry {a:Nat→Addr}(e:Int)(v:Value)(l:List Lh.Fl)(W:World)(he:EC a W)(hv:Flows1 W v l)(hl:l.length≤201)(hin:FlIn l) :
    Calls Tryz.prog 163 #[.int .i64 e,v] W fun r w'=>∃c pl,CaF e l c pl∧Below W.heap.size W w' ∧
      ((c=0∧r=.returned (.tuple #[.string (Lh.bt (Lh.textL e.toNat l)),.nilIface])) ∨
       (c≠0∧∃ev,r=.returned (.tuple #[.string ByteArray.empty,ev])∧ErrIs a w' c pl ev∧ev≠.nilIface)):=by
  have hck:=check_carry e v l W he hv (by omega) (fun x hx=>⟨(hin x hx).1,by have:=(hin x hx).2.1;omega,(hin x hx).2.2⟩)
  obtain⟨p,cp,rfl,hc⟩:=hv.cells
  have HC:Hid _:=hc
  have HE:Hid (EC a W):=he
  have HI:Hid (FlIn l):=hin
  clear hc hv he hin
  go_enter Tryz.func163,Tryz.ntmps163
  go_wp2_with fail
  refine hck.mono ?_
  rintro r w1 ⟨c,pl,ev,rfl,hcf,herr,hnil,hb1⟩
  clear hck
  by_cases h0:c=0
  case neg =>
    obtain⟨t,q,rfl⟩:=herr.box h0
    have HF:Hid (CaF e l c pl):=hcf
    have HR:Hid (ErrIs a w1 c pl (.iface t q)):=herr
    clear hcf herr hnil
    go_wp2
    go_ret2
    exact⟨c,pl,HF.out,hb1,Or.inr ⟨h0,_,rfl,HR.out,by simp⟩⟩
  subst h0
  obtain rfl:=herr.zero
  have HF:Hid (CaF e l 0 pl):=hcf
  obtain⟨⟨he0,he1,hl2⟩,hgood,rfl⟩:=caF_good hcf
  obtain⟨n,rfl⟩:=Int.eq_ofNat_of_zero_le he0
  have HGD:Hid (∀j,∀hj:j<l.length,GoodF l j hj):=hgood
  clear hcf herr hnil hgood he0
  have hlen:∀i,(Lh.headL n l.length++[10]++Lh.rowsB (l.take i)).length≤19000:=fun i=>by
    have h1:=Lh.headL_len (e:=n) (n:=l.length) (by omega) (by omega)
    have h2:=Lh.rowsB_len (l:=l.take i) (fun x hx=>by
      obtain⟨j,hj,rfl⟩:=List.getElem_of_mem (List.mem_of_mem_take hx)
      obtain⟨g1,g2,g3,_⟩:=HGD.out j hj
      have:=(nm_word g1).2.2.2
      exact⟨by omega,by omega⟩)
    have h3:(l.take i).length≤200:=by rw[List.length_take];omega
    simp only[List.length_append,List.length_cons,List.length_nil]
    omega
  have HLEN:Hid (∀i,(Lh.headL n l.length++[10]++Lh.rowsB (l.take i)).length≤19000):=hlen
  clear hlen
  obtain⟨B,hB⟩:∃B,B=w1.heap.size:=⟨_,rfl⟩
  have hWB:W.heap.size≤B:=by rw[hB];exact hb1.size
  go_wp2_with fail
  have hp2:=Pg.made w1
  have hb2:Below W.heap.size W (w1.alloc (.cells #[.pointer none,.slice none 0 0] 285)):=hb1.alloc hb1.size _
  have hB2:B≤(w1.alloc (.cells #[.pointer none,.slice none 0 0] 285)).heap.size:=by rw[hB];simp
  rw[←hB] at hp2 ⊢
  generalize w1.alloc (.cells #[.pointer none,.slice none 0 0] 285)=w2 at *
  clear hb1 hB
  refine (itoa_any n (by omega) w2 (HE.out.later hb2)).mono ?_
  rintro r w3 ⟨rfl,hb3⟩
  dsimp only
  go_wp2_with fail
  refine (itoa_any l.length (by omega) w3 (HE.out.later (below_then hb2 hb3))).mono ?_
  rintro r w4 ⟨rfl,hb4⟩
  dsimp only
  have hb24:=below_then hb3 hb4
  have hp4:=hp2.later hb24
  have hbW4:=below_then hb2 hb24
  have hB4:B≤w4.heap.size:=Nat.le_trans hB2 hb24.size
  clear hb3 hb4 hb24 hp2 hb2 hB2
  go_wp2_with fail
  refine (line3_any B B [] Lh.flowsW (Lh.decL n) (Lh.decL l.length) w4 hp4 hB4 (by simp) (by
    have:=Lh.headL_len (e:=n) (n:=l.length) (by omega) (by omega)
    have e1:(Lh.joinL 32 [Lh.flowsW,Lh.decL n,Lh.decL l.length]).length=(Lh.headL n l.length).length:=rfl
    omega)).mono ?_
  rintro r w5 ⟨rfl,hp5,hb5,_⟩
  have hbW5:Below W.heap.size W w5:=hbW4.trans (hb5.mono hWB)
  have hB5:B≤w5.heap.size:=Nat.le_trans hB4 hb5.size
  have hp5':Pg B B (Lh.headL n l.length++[10]++Lh.rowsB (l.take 0)) w5:=by
    have e1:Lh.headL n l.length++[10]++Lh.rowsB (l.take 0)=[]++(Lh.joinL 32 [Lh.flowsW,Lh.decL n,Lh.decL l.length]++[10]):=by simp[Lh.headL,Lh.rowsB]
    rw[e1]
    exact hp5
  clear hp5 hb5 hbW4 hB4 hp4
  dsimp only
  go_wp2_with fail
  go_loopw [28] (fun u28 w'=>Below W.heap.size W w'∧B≤w'.heap.size∧∃i:Nat,i≤l.length∧u28=.int .i64 (i:Nat)∧Pg B B (Lh.headL n l.length++[10]++Lh.rowsB (l.take i)) w') (fun u28 _=>l.length - (intOf u28).toNat)
  case atStart=>exact⟨hbW5,hB5,0,Nat.zero_le _,rfl,hp5'⟩
  case round =>
    obtain⟨hb,hBr,i,hi,rfl,hpg⟩:=hrel
    have HPG:Hid (Pg B B (Lh.headL n l.length++[10]++Lh.rowsB (l.take i)) wr):=hpg
    clear hpg hbW5 hB5 hp5'
    by_cases hil:i<l.length
    · have hii:(i:Int)<(l.length:Int):=by omega
      obtain⟨b,o,rfl,x0,x1,x2⟩:=HC.out i hil
      have x0':=below_cell hb x0
      have x1':=below_cell hb x1
      have x2':=below_cell hb x2
      obtain⟨k,s,q,hk,hs,hq,hk64,hqb,hll,hrw⟩:=line_step hil (HGD.out i hil) HI.out
      rw[hk] at x0'
      rw[hs] at x1'
      rw[hq] at x2'
      have HRW:Hid (∀H:List UInt8,H++Lh.rowsB (l.take (i+1))=H++Lh.rowsB (l.take i)++(Lh.joinL 32 [Lh.hexL 16 k,s.data.toList,Lh.decL q]++[10])):=hrw
      have HLL:Hid ((Lh.joinL 32 [Lh.hexL 16 k,s.data.toList,Lh.decL q]).length≤92):=hll
      clear x0 x1 x2 hrw hll hq hk hs
      go_wp2_with fail
      have hb0:=(Below.refl wr.heap.size wr).alloc (Nat.le_refl _) (.cells #[.int .u64 (k:Nat),.string s,.int .i64 (q:Nat)] 80)
      have hh0:=heap_newC wr (.cells #[.int .u64 (k:Nat),.string s,.int .i64 (q:Nat)] 80)
      have hfb:B≠wr.heap.size:=by have:=HPG.out.base;omega
      generalize wr.alloc (.cells #[.int .u64 (k:Nat),.string s,.int .i64 (q:Nat)] 80)=wb at *
      have hbb:Below W.heap.size W wb:=below_then hb hb0
      have hBb:B≤wb.heap.size:=Nat.le_trans hBr hb0.size
      have hpb:=HPG.out.later hb0
      have HCL:Hid (∀W':World,W'.heap[wr.heap.size]?=some (.cells #[.int .u64 (k:Nat),.string s,.int .i64 (q:Nat)] 80)→W'.cell? ⟨wr.heap.size,0,none⟩=some (.int .u64 (k:Nat))∧W'.cell? ⟨wr.heap.size,1,none⟩=some (.string s)∧W'.cell? ⟨wr.heap.size,2,none⟩=some (.int .i64 (q:Nat))):=fun W' h=>⟨by rw[Lib.cell_of_heap h];rfl,by rw[Lib.cell_of_heap h];rfl,by rw[Lib.cell_of_heap h];rfl⟩
      have HKC:Hid (∀W':World,Below wb.heap.size wb W'→W'.cell? ⟨wr.heap.size,0,none⟩=some (.int .u64 (k:Nat))∧W'.cell? ⟨wr.heap.size,1,none⟩=some (.string s)∧W'.cell? ⟨wr.heap.size,2,none⟩=some (.int .i64 (q:Nat))):=fun W' h=>HCL.out W' ((h.block _ (block_lt hh0)).trans hh0)
      have HXW:Hid (∀W':World,Below wb.heap.size wb W'→Calls Tryz.prog 210 #[.int .u64 (k:Nat),.int .i64 16] W' fun e w'=>e=.returned (.string (Lh.bt (Lh.hexL 16 k)))∧Below wb.heap.size wb w'):=fun W' h=>(hexT_any k 16 (by decide) (by decide) (by omega) W' (HE.out.later (below_then hbb h))).mono fun _ _ ⟨q1,q2⟩=>⟨q1,below_then h q2⟩
      have HDW:Hid (∀W':World,Below wb.heap.size wb W'→Calls Tryz.prog 87 #[.int .i64 (q:Nat)] W' fun e w'=>e=.returned (.string (Lh.bt (Lh.decL q)))∧Below wb.heap.size wb w'):=fun W' h=>(itoa_any q (by omega) W' (HE.out.later (below_then hbb h))).mono fun _ _ ⟨q1,q2⟩=>⟨q1,below_then h q2⟩
      have HLN:Hid (∀W':World,Below wb.heap.size wb W'→Calls Tryz.prog 209 #[.pointer (some ⟨B,0,none⟩),.slice (some ⟨W'.heap.size,0,none⟩) 3 3] (W'.alloc (.cells #[.string (Lh.bt (Lh.hexL 16 k)),.string s,.string (Lh.bt (Lh.decL q))] 9)) fun e w'=>e=.returned (.tuple #[])∧Pg B B (Lh.headL n l.length++[10]++Lh.rowsB (l.take (i+1))) w'∧Below W.heap.size W w'∧B≤w'.heap.size∧(w'.cell? ⟨wr.heap.size,0,none⟩=some (.int .u64 (k:Nat))∧w'.cell? ⟨wr.heap.size,1,none⟩=some (.string s)∧w'.cell? ⟨wr.heap.size,2,none⟩=some (.int .i64 (q:Nat)))):=fun W' h =>
        (line3_any B B _ (Lh.hexL 16 k) s.data.toList (Lh.decL q) W' (hpb.later h) (Nat.le_trans hBb h.size) (by have:=HLEN.out i;omega) (by have:=HLL.out;omega)).mono fun _ w' ⟨q1,q2,q3,q4⟩=>⟨q1,by rw[HRW.out];exact q2,(below_then hbb h).trans (q3.mono hWB),Nat.le_trans (Nat.le_trans hBb h.size) q3.size,HCL.out w' (q4 _ _ ((h.block _ (block_lt hh0)).trans hh0) (fun e=>hfb (Option.some.inj e).symm) (fun c fz e=>by cases e))⟩
      clear hpb hh0 hb0 hbb hBb HPG x0' x1' x2'
      go_region_held3 (fun w'=>w'.cell? ⟨wr.heap.size,0,none⟩=some (.int .u64 (k:Nat))∧w'.cell? ⟨wr.heap.size,1,none⟩=some (.string s)∧w'.cell? ⟨wr.heap.size,2,none⟩=some (.int .i64 (q:Nat)))
        (first|assumption|exact HKC.out _ (by assumption)|exact HKC.out _ (Below.refl _ _)|exact HKC.out _ (below_drewN (Below.refl _ _) 1)|exact HKC.out _ (Below.alloc (by assumption) (Below.size (by assumption)) _))
        (first
          | (go_at_call 210;refine (HXW.out _ (by first|assumption|exact Below.refl _ _|exact below_drewN (Below.refl _ _) 1)).mono ?_;rintro e w7 ⟨rfl,hb7⟩)
          | (go_at_call 87;refine (HDW.out _ (by first|assumption|exact Below.refl _ _|exact below_drewN (Below.refl _ _) 1)).mono ?_;rintro e w8 ⟨rfl,hb8⟩)
          | (go_at_call 209;refine (HLN.out _ (by assumption)).mono ?_;rintro e w9 ⟨rfl,hp9,hb9,hB9,hS9⟩))
      all_goals
        go_wp2
        exact⟨⟨hb9,hB9,i+1,by omega,by go_num,hp9⟩,by simp[intOf];omega⟩
    · have hii:decide ((i:Int)<(l.length:Int))=false:=by simp;omega
      have hie:l.take i=l:=List.take_of_length_le (by omega)
      have hpg:Pg B B (Lh.bodyL n l) wr:=by
        have:=HPG.out
        rw[hie] at this
        rw[Lh.body_rows]
        exact this
      have hbl:(Lh.bodyL n l).length≤19000:=by
        have:=HLEN.out i
        rw[hie] at this
        rw[Lh.body_rows]
        exact this
      have hne:Lh.bodyL n l≠[]:=by
        rw[Lh.body_rows]
        simp
      have HTX:Hid (Lh.textL n l=Lh.bodyL n l++(Lh.joinL 32 [Lh.sumW,Lh.hexL 8 (Lh.crcL (Lh.bodyL n l))]++[10])):=by
        have e1:Lh.textL n l=Lh.bodyL n l++(Lh.joinL 32 [Lh.sumW,Lh.hexL 8 (Lh.crcL (Lh.bodyL n l))]++[10]):=by
          rw[←List.append_assoc]
          rfl
        exact e1
      have hjl:(Lh.joinL 32 [Lh.sumW,Lh.hexL 8 (Lh.crcL (Lh.bodyL n l))]).length≤100:=by
        have:=Lh.hexL_len 8 (Lh.crcL (Lh.bodyL n l))
        simp[Lh.joinL,Lh.sumW,this]
      have hcr:=Lh.crcL_lt (Lh.bodyL n l)
      clear HPG hie
      generalize Lh.bodyL n l=T at *
      generalize hcv:Lh.crcL T=cv at *
      have hst:=pgString B B T wr hpg hne
      go_wp2_with fail
      refine hst.mono ?_
      rintro r w6 ⟨rfl,hp6,hb6⟩
      have hbW6:Below W.heap.size W w6:=hb.trans (hb6.mono hWB)
      have hB6:B≤w6.heap.size:=Nat.le_trans hBr hb6.size
      clear hst hpg hb6
      dsimp only
      have hsm:=sumOf_any T (by omega) w6
      rw[hcv] at hsm
      go_wp2_with fail
      refine hsm.mono ?_
      rintro r w7 ⟨rfl,rfl⟩
      clear hsm
      dsimp only
      have hcw:IntKind.u64.wrap (cv:Int)=(cv:Int):=by rw[IntKind.wrap_u64];omega
      have hht:=hexT_any cv 8 (by decide) (by decide) (by omega) w7 (HE.out.later hbW6)
      go_wp2_with fail
      refine hht.mono ?_
      rintro r w8 ⟨rfl,hb8⟩
      have hp8:=hp6.later hb8
      have hbW8:=below_then hbW6 hb8
      have hB8:B≤w8.heap.size:=Nat.le_trans hB6 hb8.size
      clear hht hp6 hbW6 hb8 hB6
      dsimp only
      have hln:=line2_any B B T Lh.sumW (Lh.hexL 8 cv) w8 hp8 hB8 (by omega) (by omega)
      go_wp2_with fail
      refine hln.mono ?_
      rintro r w9 ⟨rfl,hp9,hb9,_⟩
      have hbW9:Below W.heap.size W w9:=hbW8.trans (hb9.mono hWB)
      rw[←HTX.out] at hp9
      have hst2:=pgString B B (Lh.textL n l) w9 hp9 (by rw[HTX.out];simp)
      clear hln hp8 hbW8 hb9 hB8 hp9
      dsimp only
      go_wp2_with fail
      refine hst2.mono ?_
      rintro r w10 ⟨rfl,hp10,hb10⟩
      have hbW10:Below W.heap.size W w10:=hbW9.trans (hb10.mono hWB)
      clear hst2 hp10 hb10 hbW9
      dsimp only
      go_wp2
      go_ret2
      exact⟨0,-1,HF.out,hbW10,Or.inl ⟨rfl,rfl⟩⟩
end Go.Proofs.YtfhmfjcpggddkaaGreatDoor
