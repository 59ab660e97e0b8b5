/- Numbers and scores once more: the memory only grows. -/
import Derived.Test.YtfhmfjcpggddkaaGreatDoorM2
import Derived.Test.YtfhmfjcpggddkaaGreatDoorM15
import Derived.Sort.Grow
import Derived.Test.YtfhmfjcpggddkaaGreatDoorM22
import Derived.Deep.RegionHeld3
import Derived.Shelf.SlGeneric
import Derived.Shelf.SlSortCmp.NoneTotal
import Derived.Test.YtfhmfjcpggddkaaGreatDoorProg
import Derived.Test.YtfhmfjcpggddkaaGreatDoorM5
set_option maxHeartbeats 20000000
set_option maxRecDepth 100000
namespace Go.Proofs.YtfhmfjcpggddkaaGreatDoor
open Go.RowKit Go.Sort
def Gr (w w':World):Prop:=∃q os,w'=grow (w.drewN q) os
theorem Gr.refl (w:World):Gr w w:=⟨0,#[],by rw[grow_empty];rfl⟩
theorem Gr.trans {a b c:World}(h:Gr a b)(k:Gr b c):Gr a c:=by
 obtain⟨q,os,rfl⟩:=h
 obtain⟨q',os',rfl⟩:=k
 refine⟨q+q',os++os',?_⟩
 show grow (grow ((a.drewN q).drewN q') os) os'=_
 rw[grow_grow,World.drewN_drewN]
theorem Gr.alloc {a b:World}(h:Gr a b)(o:Obj):Gr a (b.alloc o):=h.trans ⟨0,#[o],by rw[alloc_eq_grow];rfl⟩
theorem Gr.drewN {a b:World}(h:Gr a b)(n:Nat):Gr a (b.drewN n):=h.trans ⟨n,#[],by rw[grow_empty]⟩
theorem Gr.cell {a b:World}(h:Gr a b){x:Addr}{v:Value}(hc:a.cell? x=some v):b.cell? x=some v:=by
 obtain⟨q,os,rfl⟩:=h
 have hb:x.block<a.heap.size:=by
  by_cases hb:x.block<a.heap.size
  ·exact hb
  ·rw[World.cell?,Array.getElem?_eq_none (by omega)] at hc
   cases hc
 rw[cell?_grow (a.drewN q) os x hb]
 exact hc
theorem turn_gr (z:Nat)(w:World) :
  Calls Tryz.prog 183 #[.int .u64 z] w fun e w'=>e=.returned (.int .u64 (Lh.turn z:Nat))∧Gr w w':=by
 go_enter Tryz.func183,Tryz.ntmps183
 go_wp2
 go_end0
 go_wp2
 go_end0
 go_wp2
 go_end0
 go_wp2
 go_ret
 refine⟨?_,(Gr.refl _).alloc _⟩
 rw[stepAdd,step30 _ (Nat.mod_lt _ (by decide)),step27 _ (Nat.mod_lt _ (by decide)),step31 _ (Nat.mod_lt _ (by decide))]
 rfl
theorem two_gr (a b:Nat)(hb:b<18446744073709551616)(w:World) :
  Calls Tryz.prog 187 #[.int .u64 a,.int .u64 b] w fun e w'=>e=.returned (.int .u64 (Lh.turn (Lh.turn a ^^^ b):Nat))∧Gr w w':=by
 go_enter Tryz.func187,Tryz.ntmps187
 go_wp2_with fail
 refine (turn_gr a _).mono ?_
 rintro e w1 ⟨rfl,hb1⟩
 go_wp2_with fail
 rw[xorNat _ _ (Lh.turn_lt a) hb]
 refine (turn_gr _ _).mono ?_
 rintro e w2 ⟨rfl,hb2⟩
 go_wp2
 go_ret
 exact⟨rfl,hb1.trans hb2⟩
theorem of_gr (s:ByteArray)(salt:Nat)(w:World)(hs:s.size≤300) :
  Calls Tryz.prog 178 #[.string s,.int .u64 salt] w fun e w'=>e=.returned (.int .u64 (Lh.num s salt:Nat))∧Gr w w':=by
 go_enter Tryz.func178,Tryz.ntmps178
 go_wp2
 go_loop [5,9] (fun h i=>∃k:Nat,k≤s.size∧i=.int .i64 k∧h=.int .u64 (Lh.hash (s.data.toList.take k):Nat)) (fun _ i=>s.size - (intOf i).toNat)
 case atStart=>exact⟨0,Nat.zero_le _,rfl,rfl⟩
 case round =>
  obtain⟨k,hk,rfl,rfl⟩:=hrel
  by_cases hlt:k<s.size
  ·have HN:Hid _:=hash_next s k hlt
   go_wp2
   go_round
   case rel=>exact⟨k+1,by omega,by go_num,by rw[←HN.out]⟩
   case measure=>simp[intOf];omega
  ·have hfull:s.data.toList.take k=s.data.toList:=List.take_of_length_le (by simp;omega)
   rw[hfull]
   clear hfull
   go_wp2_with fail
   refine (turn_gr salt _).mono ?_
   rintro e w1 ⟨rfl,hb1⟩
   go_wp2_with fail
   rw[xorNat _ _ (Lh.hash_lt _) (Lh.turn_lt _)]
   refine (turn_gr _ _).mono ?_
   rintro e w2 ⟨rfl,hb2⟩
   go_wp2
   go_ret
   exact⟨rfl,hb1.trans hb2⟩
theorem score_gr (s:ByteArray)(k:Nat)(hk:k<18446744073709551616)(w:World)(hs:s.size≤300) :
  Calls Tryz.prog 148 #[.string s,.int .u64 k] w fun e w'=>e=.returned (.int .u64 (Lh.score k s:Nat))∧Gr w w':=by
 go_enter Tryz.func148,Tryz.ntmps148
 go_wp2_with fail
 refine (of_gr s 3 _ hs).mono ?_
 rintro e w1 ⟨rfl,hb1⟩
 go_wp2_with fail
 refine (two_gr _ k hk _).mono ?_
 rintro e w2 ⟨rfl,hb2⟩
 go_wp2
 go_ret
 exact⟨rfl,hb1.trans hb2⟩
def cfR (f:ByteArray→Nat)(x y:ByteArray):Int:=if cmpU (f y) (f x)=0 then cmpS x y else cmpU (f y) (f x)
theorem closureR0 (fx fy kb k:Nat)(x y:ByteArray)(W:World)(hc0:W.cell? ⟨kb,0,none⟩=some (.int .u64 (k:Nat)))
    (hx:∀W',Calls Tryz.prog 148 #[.string x,.int .u64 (k:Nat)] W' fun e w'=>e=.returned (.int .u64 (fx:Nat))∧Gr W' w')
    (hy:∀W',Calls Tryz.prog 148 #[.string y,.int .u64 (k:Nat)] W' fun e w'=>e=.returned (.int .u64 (fy:Nat))∧Gr W' w') :
    Calls Tryz.prog 147 #[.string x,.string y,.pointer (some ⟨kb,0,none⟩)] W fun e w'=>e=.returned (.int .i64 (if cmpU fy fx=0 then cmpS x y else cmpU fy fx))∧Gr W w':=by
  have hU:=fun W'=>compareU fy fx W'
  have hS:=fun W'=>compareS x y W'
  generalize cmpU fy fx=u at *
  generalize cmpS x y=v at *
  have hO:=fun b W' c0 c1=>or_two b u v W' c0 c1
  generalize (if u=0 then v else u)=r at hO ⊢
  have hx':∀W',Gr W W'→Calls Tryz.prog 148 #[.string x,.int .u64 (k:Nat)] W' fun e w'=>e=.returned (.int .u64 (fx:Nat))∧Gr W w':=fun W' h=>(hx W').mono fun _ _ ⟨h1,h2⟩=>⟨h1,h.trans h2⟩
  have hy':∀W',Gr W W'→Calls Tryz.prog 148 #[.string y,.int .u64 (k:Nat)] W' fun e w'=>e=.returned (.int .u64 (fy:Nat))∧Gr W w':=fun W' h=>(hy W').mono fun _ _ ⟨h1,h2⟩=>⟨h1,h.trans h2⟩
  have hcc:∀W',Gr W W'→W'.cell? ⟨kb,0,none⟩=some (.int .u64 (k:Nat)):=fun W' h=>h.cell hc0
  have hg1:Gr W W.drew:=(Gr.refl W).drewN 1
  clear hx hy
  go_enter Tryz.func147,Tryz.ntmps147
  go_wp2_with fail
  go_region_held3 (fun w'=>Gr W w'∧w'.cell? ⟨kb,0,none⟩=some (.int .u64 (k:Nat))) (first|exact⟨by assumption,hcc _ (by assumption)⟩|exact⟨Gr.alloc (by assumption) _,hcc _ (Gr.alloc (by assumption) _)⟩)
   (first
    | (go_at_call 148;first|(refine (hx' _ (by assumption)).mono ?_;rintro e w' ⟨rfl,hgn⟩)|(refine (hy' _ (by assumption)).mono ?_;rintro e w' ⟨rfl,hgn⟩))
    | (go_at_call 142;refine (hU _).mono ?_;rintro e w' ⟨rfl,rfl⟩)
    | (go_at_call 143;refine (hS _).mono ?_;rintro e w' ⟨rfl,rfl⟩)
    | (go_at_call 141;refine (hO _ _ (by simp) (by simp)).mono ?_;rintro e w' ⟨rfl,rfl⟩))
  all_goals
    go_wp2
    go_ret
    exact⟨rfl,by first|assumption|exact Gr.alloc (by assumption) _⟩
theorem closureR (kb k:Nat)(hk:k<18446744073709551616)(x y:ByteArray)(hx:x.size≤300)(hy:y.size≤300)(W:World)(hc0:W.cell? ⟨kb,0,none⟩=some (.int .u64 (k:Nat))) :
  Calls Tryz.prog 147 #[.string x,.string y,.pointer (some ⟨kb,0,none⟩)] W fun e w'=>e=.returned (.int .i64 (cfR (Lh.score k) x y))∧Gr W w' :=
 closureR0 (Lh.score k x) (Lh.score k y) kb k x y W hc0 (fun W'=>score_gr x k hk W' hx) (fun W'=>score_gr y k hk W' hy)
end Go.Proofs.YtfhmfjcpggddkaaGreatDoor
namespace Go.Proofs.YtfhmfjcpggddkaaGreatDoor
open Go.Shelf
def sortS_ren : Go.Shelf.Ren := ⟨fun | 6 => 146 | 15 => 180 | 14 => 186 | 28 => 230 | 29 => 231 | 20 => 233 | 21 => 234 | 22 => 235 | 23 => 236 | 24 => 237 | 25 => 238 | 26 => 239 | 27 => 240 | 46 => 275 | 47 => 271 | 48 => 272 | 49 => 276 | 50 => 277 | 57 => 303 | n => n, fun | 22 => 22 | 24 => 9 | 25 => 208 | 3 => 3 | 39 => 261 | 0 => 0 | 53 => 287 | 55 => 63 | 4 => 4 | 46 => 300 | 45 => 299 | 50 => 294 | 5 => 5 | 9 => 9 | 66 => 330 | 70 => 334 | 76 => 354 | 77 => 55 | n => n, fun | n => n⟩
theorem sortS : Go.Proofs.SlLaysF.n6 Tryz.prog sortS_ren := {
  mixed := by kernel_rfl
  f6 := ⟨Tryz.f146.name, by decide, Tryz.func146.trans (congrArg some (by kernel_rfl))⟩
  f14 := ⟨Tryz.f186.name, by decide, Tryz.func186.trans (congrArg some (by kernel_rfl))⟩
  f15 := Tryz.func180.trans (congrArg some (by kernel_rfl))
  f20 := ⟨Tryz.f233.name, by decide, Tryz.func233.trans (congrArg some (by kernel_rfl))⟩
  f21 := ⟨Tryz.f234.name, by decide, Tryz.func234.trans (congrArg some (by kernel_rfl))⟩
  f22 := ⟨Tryz.f235.name, by decide, Tryz.func235.trans (congrArg some (by kernel_rfl))⟩
  f23 := ⟨Tryz.f236.name, by decide, Tryz.func236.trans (congrArg some (by kernel_rfl))⟩
  f24 := ⟨Tryz.f237.name, by decide, Tryz.func237.trans (congrArg some (by kernel_rfl))⟩
  f25 := ⟨Tryz.f238.name, by decide, Tryz.func238.trans (congrArg some (by kernel_rfl))⟩
  f26 := ⟨Tryz.f239.name, by decide, Tryz.func239.trans (congrArg some (by kernel_rfl))⟩
  f27 := ⟨Tryz.f240.name, by decide, Tryz.func240.trans (congrArg some (by kernel_rfl))⟩
  f28 := Tryz.func230.trans (congrArg some (by kernel_rfl))
  f29 := Tryz.func231.trans (congrArg some (by kernel_rfl))
  f46 := ⟨Tryz.f275.name, by decide, Tryz.func275.trans (congrArg some (by kernel_rfl))⟩
  f47 := Tryz.func271.trans (congrArg some (by kernel_rfl))
  f48 := Tryz.func272.trans (congrArg some (by kernel_rfl))
  f49 := ⟨Tryz.f276.name, by decide, Tryz.func276.trans (congrArg some (by kernel_rfl))⟩
  f50 := ⟨Tryz.f277.name, by decide, Tryz.func277.trans (congrArg some (by kernel_rfl))⟩
  f57 := ⟨Tryz.f303.name, by decide, Tryz.func303.trans (congrArg some (by kernel_rfl))⟩
  t0 := Tryz.underlying0
  a0 := Tryz.isAgg0
  z0 := Tryz.sizeOf0
  v0 := Tryz.zeroValue0
  t3 := Tryz.underlying3
  a3 := Tryz.isAgg3
  z3 := Tryz.sizeOf3
  v3 := Tryz.zeroValue3
  t4 := Tryz.underlying4
  a4 := Tryz.isAgg4
  z4 := Tryz.sizeOf4
  v4 := Tryz.zeroValue4
  t5 := Tryz.underlying5
  a5 := Tryz.isAgg5
  z5 := Tryz.sizeOf5
  v5 := Tryz.zeroValue5
  t9 := Tryz.underlying9
  a9 := Tryz.isAgg9
  z9 := Tryz.sizeOf9
  v9 := Tryz.zeroValue9
  t22 := Tryz.underlying22
  a22 := Tryz.isAgg22
  z22 := Tryz.sizeOf22
  v22 := Tryz.zeroValue22
  a24 := Tryz.isAgg9
  z24 := Tryz.sizeOf9
  t25 := Tryz.underlying208
  a25 := Tryz.isAgg208
  z25 := Tryz.sizeOf208
  v25 := Tryz.zeroValue208
  t39 := Tryz.underlying261
  a39 := Tryz.isAgg261
  z39 := Tryz.sizeOf261
  v39 := Tryz.zeroValue261
  t45 := Tryz.underlying299
  a45 := Tryz.isAgg299
  z45 := Tryz.sizeOf299
  v45 := Tryz.zeroValue299
  t46 := Tryz.underlying300
  a46 := Tryz.isAgg300
  z46 := Tryz.sizeOf300
  v46 := Tryz.zeroValue300
  t50 := Tryz.underlying294
  a50 := Tryz.isAgg294
  z50 := Tryz.sizeOf294
  v50 := Tryz.zeroValue294
  t53 := Tryz.underlying287
  a53 := Tryz.isAgg287
  z53 := Tryz.sizeOf287
  v53 := Tryz.zeroValue287
  t55 := Tryz.underlying63
  a55 := Tryz.isAgg63
  z55 := Tryz.sizeOf63
  v55 := Tryz.zeroValue63
  t66 := Tryz.underlying330
  a66 := Tryz.isAgg330
  z66 := Tryz.sizeOf330
  v66 := Tryz.zeroValue330
  t70 := Tryz.underlying334
  a70 := Tryz.isAgg334
  z70 := Tryz.sizeOf334
  v70 := Tryz.zeroValue334
  t76 := Tryz.underlying354
  a76 := Tryz.isAgg354
  z76 := Tryz.sizeOf354
  v76 := Tryz.zeroValue354
  t77 := Tryz.underlying55
  a77 := Tryz.isAgg55
  z77 := Tryz.sizeOf55
  v77 := Tryz.zeroValue55 }
end Go.Proofs.YtfhmfjcpggddkaaGreatDoor
namespace Go.Proofs.YtfhmfjcpggddkaaGreatDoor
open Go.RowKit Go.Sort Go.Shelf Go.Lib
abbrev Sub:={s:ByteArray // s.size≤300}
instance:Inhabited Sub:=⟨⟨ByteArray.empty,by decide⟩⟩
def encS (s:Sub):Value:=.string s.1
theorem encS_one:OneCell encS:=fun _=>rfl
def cfS (f:ByteArray→Nat)(x y:Sub):Int:=cfR f x.1 y.1
theorem ltS_false (f:ByteArray→Nat)(x y:Sub):ltOf (cfS f) x y=false↔Lh.leR f y.1 x.1:=by
 unfold ltOf cfS cfR cmpU cmpS Lh.leR
 rcases Nat.lt_trichotomy (f x.1) (f y.1) with h|h|h
 ·have h2:¬f y.1<f x.1:=by omega
  simp[h,h2]
 ·by_cases h3:Lh.bl x.1<Lh.bl y.1
  ·have h5:¬Lh.bl y.1≤Lh.bl x.1:=fun h6=>List.not_lt.2 h6 h3
   simp[h,h3]
  ·have h5:Lh.bl y.1≤Lh.bl x.1:=List.not_lt.1 h3
   by_cases h4:Lh.bl y.1<Lh.bl x.1
   ·simp[h,h3,h4,h5]
   ·simp[h,h3,h4,h5]
 ·have h2:¬f x.1<f y.1:=by omega
  have h6:¬f y.1=f x.1:=by omega
  simp[h,h2,h6]
theorem ltS_true (f:ByteArray→Nat)(x y:Sub):ltOf (cfS f) x y=true↔¬Lh.leR f y.1 x.1:=by
 rw[←ltS_false,Bool.not_eq_false]
theorem swoS (f:ByteArray→Nat):SWO (ltOf (cfS f)) where
 irrefl x:=(ltS_false f x x).2 (Lh.leR_refl f x.1)
 trans x y z h1 h2:=by
  rw[ltS_true] at *
  intro h3
  rcases Lh.leR_total f x.1 y.1 with h4|h4
  ·exact h2 (Lh.leR_trans h3 h4)
  ·exact h1 h4
 ntrans x y z h1 h2:=by
  rw[ltS_false] at *
  exact Lh.leR_trans h2 h1
theorem sortedS (f:ByteArray→Nat)(d:List Sub):(d.mergeSort fun x y=>!(ltOf (cfS f)) y x).map (·.1)=Lh.order f (d.map (·.1)):=by
 refine Lh.order_unique ?_ ((List.mergeSort_perm _ _).map _)
 rw[List.pairwise_map]
 have:=List.pairwise_mergeSort (le:=fun x y=>!(ltOf (cfS f)) y x) (fun a b c h k=>by
  simp only[Bool.not_eq_eq_eq_not,Bool.not_true] at h k ⊢
  rw[ltS_false] at *
  exact Lh.leR_trans h k) (fun a b=>by
  rw[Bool.or_eq_true]
  simp only[Bool.not_eq_eq_eq_not,Bool.not_true]
  rw[ltS_false,ltS_false]
  exact Lh.leR_total f a.1 b.1) d
 refine this.imp fun {a b} h=>?_
 simp only[Bool.not_eq_eq_eq_not,Bool.not_true] at h
 exact (ltS_false f b a).1 h
theorem size_sortW {w:World}{g m:Nat}(dk:Array Sub):(putRow encS (Sort.ahead w m) g 0 dk).heap.size=w.heap.size:=by simp[putRow,mapBlock,Sort.ahead]
theorem cell_sortW {w:World}{g kb m:Nat}{dk:Array Sub}{os:Array Obj}{v:Value}(hne:kb≠g)(hkl:kb<w.heap.size)(hk:w.cell? ⟨kb,0,none⟩=some v):(sortWorld encS w g 0 m dk os).cell? ⟨kb,0,none⟩=some v:=by
 unfold sortWorld
 rw[cell?_grow _ _ _ (by rw[size_sortW];exact hkl),cell?_putRow_other _ _ _ _ _ _ (Or.inl hne)]
 exact hk
theorem grownBy_sortW {w:World}{g n:Nat}{os:Array Obj}(d:Array Sub):w.grownBy (sortWorld encS w g 0 n d os) (some g):=by
 unfold sortWorld
 refine⟨rfl,rfl,rfl,by simp[putRow,mapBlock,Sort.ahead],fun k hk hne=>?_⟩
 rw[heap_grow_old _ _ (by rw[size_sortW];exact hk)]
 have:g≠k:=fun e=>hne (by rw[e])
 simp[putRow,mapBlock,Sort.ahead,Array.getElem?_modify,this]
theorem entersV:∀args w,(callFunc 147 args).run Tryz.prog w=.ok (.enter 147 args) w:=enters_of Tryz.func147 (by kernel_rfl) rfl
theorem get_encS (l:List Sub)(i:Nat)(h:i<l.length):encS (l.toArray[i]!)=.string l[i].1:=by
 simp[encS,h]
theorem sortR (k:Nat)(hk:k<18446744073709551616)(g kb cap:Nat)(d:List Sub)(w:World)(hne:kb≠g)(hkl:kb<w.heap.size)(hkb:w.cell? ⟨kb,0,none⟩=some (.int .u64 (k:Nat)))(hH:Holds encS w g 0 d.toArray)(hg:g<w.heap.size)(hsz:d.length<1000000) :
  Calls Tryz.prog 146 #[.slice (some ⟨g,0,none⟩) d.length cap,.func (.func 147) #[] #[.pointer (some ⟨kb,0,none⟩)]] w fun e w'=>e=.returned (.tuple #[])∧w.grownBy w' (some g)∧∃d':List Sub,d'.map (·.1)=Lh.order (Lh.score k) (d.map (·.1))∧∀i (h:i<d'.length),w'.cell? ⟨g,i,none⟩=some (.string d'[i].1):=by
 have hcmp:CmpLays1 Tryz.prog 147 #[.pointer (some ⟨kb,0,none⟩)] encS (cfS (Lh.score k)) g 0 d.toArray.size w:=fun m os dk _ x y =>
  (closureR kb k hk x.1 y.1 x.2 y.2 _ (cell_sortW hne hkl hkb)).mono fun _ _ ⟨h1,h2⟩=>⟨h1,h2⟩
 have h:=Any.slices_SortFunc_total sortS encS encS_one (cfS (Lh.score k)) (swoS _) 147 #[.pointer (some ⟨kb,0,none⟩)] g 0 cap d.toArray w entersV hcmp hH hg (by simp;omega) (fun x y h1 h2=>Subtype.ext (Lh.leR_antisymm ((ltS_false _ y x).1 h2) ((ltS_false _ x y).1 h1)))
 rw[List.size_toArray] at h
 refine Calls.mono h ?_
 rintro e w' ⟨rfl,n,os,rfl⟩
 refine⟨rfl,grownBy_sortW _,_,sortedS (Lh.score k) d,fun i hi=>?_⟩
 have hs:(d.mergeSort fun x y=>!(ltOf (cfS (Lh.score k))) y x).toArray.size=d.toArray.size:=by simp
 have hh:Holds encS (sortWorld encS w g 0 n (d.mergeSort fun x y=>!(ltOf (cfS (Lh.score k))) y x).toArray os) g 0 (d.mergeSort fun x y=>!(ltOf (cfS (Lh.score k))) y x).toArray:=by
  unfold sortWorld
  exact holds_grow _ _ _ _ _ _ (by rw[size_sortW];exact hg) (holds_putRow _ _ _ _ _ _ (holds_ahead _ _ _ _ _ _ hH) hs)
 have:=(hh i (by simpa using hi)).1
 rw[Nat.zero_add] at this
 rw[this,get_encS _ i hi]
end Go.Proofs.YtfhmfjcpggddkaaGreatDoor
namespace Go.Proofs.YtfhmfjcpggddkaaGreatDoor
open Go.RowKit
theorem owns_empty (w:World):(w.alloc (.cells #[] 9)).ownsRow w.heap.size 9 1 (.slice (some ⟨w.heap.size,0,none⟩) 0 0) 0 (([]:List ByteArray).map Value.string) :=
 ⟨rfl,Or.inr ⟨w.heap.size,0,#[],rfl,Nat.le_refl _,heap_alloc_new w _,Nat.le_refl _,by unfold maxLen;omega,rfl,rfl⟩⟩
theorem clone_any (b o c:Nat)(xs:List ByteArray)(w:World)(hx:∀k (h:k<xs.length),w.cell? ⟨b,o+k,none⟩=some (.string xs[k]))(hm:xs.length<1000000) :
  Calls Tryz.prog 145 #[.slice (some ⟨b,o,none⟩) xs.length c] w fun e w'=>∃v',e=.returned v'∧w'.ownsRow w.heap.size 9 1 v' xs.length (xs.map Value.string)∧Below w.heap.size w w':=by
 obtain⟨i,hi,hz0,hz1,hz2⟩:=info_parts infoS
 have hmax:0+xs.length≤maxLen:=by unfold maxLen;omega
 have hbW:=(Below.refl w.heap.size w).alloc (Nat.le_refl _) (.cells #[] 9)
 have hnews:=cells_strs (fun k h=>below_cell hbW (hx k h))
 have hown0:=owns_empty w
 clear hx
 have hnil:∀W:World,(binOp .eql 22 (.slice (some ⟨b,o,none⟩) xs.length c) (.slice none 0 0)).run Tryz.prog W=.ok (.bool false) W:=fun _=>rfl
 go_enter Tryz.func145,Tryz.ntmps145
 go_wp2_with (at_builtin;refine wpList_append_own _ rfl _ _ 22 rfl w.heap.size 9 i _ 1 16 Tryz.underlying22 hi hz0 hz1 hz2 rfl (by decide) (.slice (some ⟨w.heap.size,0,none⟩) 0 0) 0 _ rfl hown0 ⟨b,o,none⟩ xs.length c (xs.map Value.string) rfl (by simp) hnews (strs_oneCell xs) hmax (by omega) hbW.size ?_)
 intro v' w' hown hg _
 have hb':Below w.heap.size w w':=hbW.grown hg hbW.size (fun k hk=>(hown0.lt k hk).1)
 have hown':w'.ownsRow w.heap.size 9 1 v' xs.length (xs.map Value.string):=by simpa using hown
 have HF:Hid (w'.ownsRow w.heap.size 9 1 v' xs.length (xs.map Value.string)):=hown'
 clear hown hown' hg hown0 hnews
 go_wp2
 go_ret
 exact⟨_,rfl,HF.out,hb'⟩
def SFault (xs:List ByteArray)(c:Nat)(pl:Int):Prop:=(xs=[]∧c=5∧pl = -1)∨(0<xs.length∧IsFault xs c pl)
theorem rcheck_none (a:Nat→Addr)(p:Option Addr)(c:Nat)(w:World)(he:Errs4 a w) :
  Calls Tryz.prog 90 #[.slice p 0 c] w fun e w'=>e=.returned (.iface 378 (.pointer (some (a 4))))∧Below w.heap.size w w':=by
 have s4:=he.s4
 go_enter Tryz.func90,Tryz.ntmps90
 go_wp2
 go_ret
 exact⟨rfl,Below.refl _ _⟩
theorem rcheck_some (a:Nat→Addr)(v:Value)(xs:List ByteArray)(w:World)(c:Nat)(pl:Int)(he:Errs4 a w)(hv:Strs1 w v xs)(h0:0<xs.length)(hf:IsFault xs c pl)(hsz:∀k (h:k<xs.length),(xs[k]).size≤1000000)(hm:xs.length<1000000) :
  Calls Tryz.prog 90 #[v] w fun e w'=>∃ev,e=.returned ev∧ErrIs a w' c pl ev∧Below w.heap.size w w':=by
 have hchk:=check_any4 a v xs w c pl he hv.strs hf hsz hm
 obtain⟨b,o,cp,rfl,hx⟩:=strsPos hv h0
 clear hv hf hsz hx he
 have hl0:((xs.length:Int)==0)=false:=by rw[beq_eq_false_iff_ne];omega
 go_enter Tryz.func90,Tryz.ntmps90
 go_wp2_with fail
 refine hchk.mono ?_
 rintro e w1 ⟨ev,rfl,hev,hb1⟩
 have HEV:Hid (ErrIs a w1 c pl ev):=hev
 clear hev hchk
 go_wp2
 go_ret
 exact⟨_,rfl,HEV.out,hb1⟩
theorem rcheck_any (a:Nat→Addr)(v:Value)(xs:List ByteArray)(w:World)(c:Nat)(pl:Int)(he:Errs4 a w)(hv:Strs1 w v xs)(hf:SFault xs c pl)(hsz:∀k (h:k<xs.length),(xs[k]).size≤1000000)(hm:xs.length<1000000) :
  Calls Tryz.prog 90 #[v] w fun e w'=>∃ev,e=.returned ev∧ErrIs a w' c pl ev∧Below w.heap.size w w':=by
 rcases hf with⟨rfl,rfl,rfl⟩|⟨h0,hf⟩
 ·obtain⟨p,cp,rfl⟩:=hv.strs.slice
  exact (rcheck_none a p cp w he).mono fun e w' ⟨h1,h2⟩=>⟨_,h1,Or.inr ⟨4,by decide,rfl,Or.inl ⟨rfl,rfl⟩⟩,h2⟩
 ·exact rcheck_some a v xs w c pl he hv h0 hf hsz hm
end Go.Proofs.YtfhmfjcpggddkaaGreatDoor
namespace Go.Proofs.YtfhmfjcpggddkaaGreatDoor
open Go.RowKit Go.Sort Go.Shelf Go.Lib
theorem attach_val {xs:List ByteArray}(hs:∀s∈xs,s.size≤300):(xs.attachWith (fun s=>s.size≤300) hs).map (·.1)=xs:=List.attachWith_map_subtype_val _
theorem holds_of_owns {w:World}{base:Nat}{v:Value}{e:TypeId}{xs:List ByteArray}(hs:∀s∈xs,s.size≤300)(h:w.ownsRow base e 1 v xs.length (xs.map Value.string))(h0:0<xs.length) :
  ∃g cap,v=.slice (some ⟨g,0,none⟩) xs.length cap∧base≤g∧g<w.heap.size∧xs.length≤cap∧Holds encS w g 0 (xs.attachWith (fun s=>s.size≤300) hs).toArray:=by
 obtain⟨hl,⟨rfl,h'⟩|⟨g,cap,cur,rfl,hbase,hb,hn,hm,hsz,ht⟩⟩:=h
 ·omega
 ·have hlt:g<w.heap.size:=(Array.getElem?_eq_some_iff.1 hb).1
  refine⟨g,cap,rfl,hbase,hlt,hn,fun j hj=>⟨?_,by simp[World.frozen?,hb]⟩⟩
  have hj':j<xs.length:=by simpa using hj
  have hk':(cur.toList.take (xs.length*1))[j]?=some (.string xs[j]):=by rw[ht];simp[hj']
  rw[List.getElem?_take_of_lt (by omega)] at hk'
  simp only[World.cell?,hb,Nat.zero_add]
  have e:(xs.attachWith (fun s=>s.size≤300) hs).toArray[j]! = ⟨xs[j],hs _ (List.getElem_mem hj')⟩:=by simp[hj']
  rw[e]
  simpa [encS] using hk'
theorem byScore_any (v:Value)(xs:List ByteArray)(k:Nat)(hk:k<18446744073709551616)(w:World)(hv:Strs1 w v xs)(h0:0<xs.length)(hm:xs.length<1000000)(hs:∀s∈xs,s.size≤300) :
  Calls Tryz.prog 91 #[v,.int .u64 (k:Nat)] w fun e w'=>∃v',e=.returned v'∧Strs1 w' v' (Lh.order (Lh.score k) xs)∧Below w.heap.size w w':=by
 have hbW:=(Below.refl w.heap.size w).alloc (Nat.le_refl _) (.cells #[.int .u64 (k:Nat)] 63)
 have hck:(w.alloc (.cells #[.int .u64 (k:Nat)] 63)).cell? ⟨w.heap.size,0,none⟩=some (.int .u64 (k:Nat)):=by simp
 have hsz1:(w.alloc (.cells #[.int .u64 (k:Nat)] 63)).heap.size=w.heap.size+1:=by simp
 obtain⟨b,o,c,rfl,hx⟩:=strsPos hv h0
 have hcl:=clone_any b o c xs (w.alloc (.cells #[.int .u64 (k:Nat)] 63)) (fun j h=>below_cell hbW (hx j h)) hm
 have HK:Hid (k<18446744073709551616):=hk
 have HS:Hid (∀s∈xs,s.size≤300):=hs
 clear hv hx hs hk
 go_enter Tryz.func91,Tryz.ntmps91
 go_wp2_with fail
 refine hcl.mono ?_
 clear hcl
 generalize w.alloc (.cells #[.int .u64 (k:Nat)] 63)=w0 at *
 rintro e w1 ⟨v',rfl,hown,hb1⟩
 have hbw1:Below w.heap.size w w1:=hbW.trans (hb1.mono hbW.size)
 have hck1:=below_cell hb1 hck
 have hklt:w.heap.size<w1.heap.size:=by have:=hb1.size;omega
 obtain⟨g,cp,rfl,hg0,hg1,hcp,hH⟩:=holds_of_owns HS.out hown h0
 have hsort:=sortR k HK.out g w.heap.size cp (xs.attachWith (fun s=>s.size≤300) HS.out) w1 (by omega) hklt hck1 hH hg1 (by simpa using hm)
 rw[attach_val,List.length_attachWith] at hsort
 clear hown hb1 hck hck1 hH
 go_wp2_with fail
 refine hsort.mono ?_
 rintro e w2 ⟨rfl,hgr,d',hd',hcells⟩
 have hb2:Below w.heap.size w w2:=hbw1.grown hgr hbw1.size (fun k hk=>by cases hk;omega)
 have HF:Hid (Strs1 w2 (.slice (some ⟨g,0,none⟩) xs.length cp) (Lh.order (Lh.score k) xs)):=by
  have hl:(Lh.order (Lh.score k) xs).length=xs.length:=Lh.order_length _ _
  refine Or.inr ⟨g,0,cp,by rw[hl],by omega,fun j hj=>?_⟩
  have hj':j<d'.length:=by rw[←hd',List.length_map] at hj;exact hj
  rw[Nat.zero_add,hcells j hj']
  congr 2
  have:(Lh.order (Lh.score k) xs)[j]=(d'.map (·.1))[j]'(by simpa using hj'):=by congr 1;exact hd'.symm
  rw[this,List.getElem_map]
 clear hsort hgr hd' hcells
 go_wp2
 go_ret
 exact⟨_,rfl,HF.out,hb2⟩
end Go.Proofs.YtfhmfjcpggddkaaGreatDoor
namespace Go.Proofs.YtfhmfjcpggddkaaGreatDoor
open Go.RowKit
theorem small_of {xs:List ByteArray}{n m:Nat}(hs:∀k (h:k<xs.length),(xs[k]).size≤n)(hnm:n≤m):∀k (h:k<xs.length),(xs[k]).size≤m:=fun k h=>Nat.le_trans (hs k h) hnm
theorem small_mem {xs:List ByteArray}{n:Nat}(hs:∀k (h:k<xs.length),(xs[k]).size≤n):∀s∈xs,s.size≤n:=fun s h=>by
 obtain⟨k,hk,rfl⟩:=List.getElem_of_mem h
 exact hs k hk
theorem order_good (a:Nat→Addr)(v:Value)(xs:List ByteArray)(k:Nat)(hk:k<18446744073709551616)(w:World)(he:Errs4 a w)(hv:Strs1 w v xs)(h0:0<xs.length)(hf:IsFault xs 0 (-1))(hs:∀k (h:k<xs.length),(xs[k]).size≤300)(hm:xs.length<1000000) :
  Calls Tryz.prog 41 #[v,.int .u64 (k:Nat)] w fun e w'=>∃v',e=.returned (.tuple #[v',.nilIface])∧Strs1 w' v' (Lh.order (Lh.score k) xs)∧Below w.heap.size w w':=by
 have hchk:=rcheck_any a v xs w 0 (-1) he hv (Or.inr ⟨h0,hf⟩) (small_of hs (by decide)) hm
 have hby:=fun W (hb:Below w.heap.size w W)=>byScore_any v xs k hk W (hv.later hb) h0 hm (small_mem hs)
 obtain⟨b,o,c,rfl,hx⟩:=strsPos hv h0
 clear he hv hf hs hx
 generalize Lh.order (Lh.score k) xs=ys at *
 go_enter Tryz.func41,Tryz.ntmps41
 go_wp2_with fail
 refine hchk.mono ?_
 rintro e w1 ⟨ev,rfl,hev,hb1⟩
 obtain rfl:=err0 hev
 clear hev hchk
 go_wp2_with fail
 refine (hby _ hb1).mono ?_
 rintro e w2 ⟨v',rfl,hv',hb2⟩
 have hbz:Below w.heap.size w w2:=below_then hb1 hb2
 have HF:Hid (Strs1 w2 v' ys):=hv'
 clear hby hv' hb1 hb2
 go_wp2
 go_ret2
 exact⟨_,rfl,HF.out,hbz⟩
end Go.Proofs.YtfhmfjcpggddkaaGreatDoor
namespace Go.Proofs.YtfhmfjcpggddkaaGreatDoor
open Go.RowKit Go.Sort
namespace Lh
theorem insR_sorted {f:ByteArray→Nat}{ys:List ByteArray}{x:ByteArray}{k:Nat}(hs:ys.Pairwise (leR f))(hlo:∀j (h:j<ys.length),j<k→leR f ys[j] x)(hhi:∀h:k<ys.length,leR f x ys[k]) :
  (ys.take k++x :: ys.drop k).Pairwise (leR f):=by
 have hpw:=List.pairwise_iff_getElem.1 hs
 have hlow:∀y∈ys.take k,leR f y x:=by
  intro y hy
  rw[List.mem_take_iff_getElem] at hy
  obtain⟨j,hj,rfl⟩:=hy
  exact hlo j (by omega) (by omega)
 have hhigh:∀y∈ys.drop k,leR f x y:=by
  intro y hy
  rw[List.mem_drop_iff_getElem] at hy
  obtain⟨j,hj,rfl⟩:=hy
  have hkl:k<ys.length:=by omega
  rcases Nat.eq_zero_or_pos j with h|h
  ·subst h;simpa using hhi hkl
  ·exact leR_trans (hhi hkl) (hpw k (k+j) hkl (by omega) (by omega))
 rw[List.pairwise_append,List.pairwise_cons]
 refine⟨hs.sublist (List.take_sublist _ _),⟨hhigh,hs.sublist (List.drop_sublist _ _)⟩,fun a ha b hb=>?_⟩
 rcases List.mem_cons.1 hb with rfl|hb
 ·exact hlow a ha
 ·exact leR_trans (hlow a ha) (hhigh b hb)
theorem insR_perm {ys xs:List ByteArray}{n:Nat}(hn:n<xs.length){k:Nat}(hp:ys.Perm (xs.take n)):(ys.take k++xs[n] :: ys.drop k).Perm (xs.take (n+1)):=by
 rw[List.take_succ_eq_append_getElem hn]
 refine List.perm_middle.trans ?_
 rw[List.take_append_drop]
 exact (hp.cons _).trans (List.perm_append_singleton _ _).symm
theorem leR_more {f:ByteArray→Nat}{x y:ByteArray}(h:f y<f x):leR f x y:=Or.inl h
theorem leR_less {f:ByteArray→Nat}{x y:ByteArray}(h:f x<f y):leR f y x:=Or.inl h
theorem leR_same {f:ByteArray→Nat}{x y:ByteArray}(h:f x=f y)(hb:Op.bytesLess x.toList y.toList=true):leR f x y:=by
 rw[less_bl] at hb
 exact Or.inr ⟨h,List.le_of_lt (of_decide_eq_true hb)⟩
theorem leR_same_not {f:ByteArray→Nat}{x y:ByteArray}(h:f x=f y)(hb:Op.bytesLess x.toList y.toList=false):leR f y x:=by
 rw[less_bl] at hb
 exact Or.inr ⟨h.symm,List.not_lt.1 (of_decide_eq_false hb)⟩
end Lh
theorem scoreOf_any (s:ByteArray)(k:Nat)(hk:k<18446744073709551616)(w:World)(hs:s.size≤300) :
  Calls Tryz.prog 129 #[.string s,.int .u64 (k:Nat)] w fun e w'=>e=.returned (.int .u64 (Lh.score k s:Nat))∧w'=w:=by
 go_enter Tryz.func129,Tryz.ntmps129
 go_wp2_with fail
 refine (numberOf_any s 3 _ hs).mono ?_
 rintro e w1 ⟨rfl,rfl⟩
 go_wp2_with fail
 refine (turnOf_any _ _).mono ?_
 rintro e w2 ⟨rfl,rfl⟩
 go_wp2_with fail
 rw[xorNat _ _ (Lh.turn_lt _) hk]
 refine (turnOf_any _ _).mono ?_
 rintro e w3 ⟨rfl,rfl⟩
 go_wp2
 go_ret
 exact⟨rfl,rfl⟩
end Go.Proofs.YtfhmfjcpggddkaaGreatDoor
