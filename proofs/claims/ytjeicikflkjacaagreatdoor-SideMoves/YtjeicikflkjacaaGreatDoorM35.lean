/- Goroutine 0 beside leavers: calls. -/
import Derived.Test.YtjeicikflkjacaaGreatDoorPoG
import Derived.Test.YtjeicikflkjacaaGreatDoorM19
import Derived.Conc.Listed
set_option linter.unusedSimpArgs false
set_option linter.unusedVariables false
namespace Go.Proofs.YtjeicikflkjacaaGreatDoor.Po
open Go
section
variable {Z:Zs} {P:Program} {α δ:Type} {Q:α→Prop} {R:δ→Prop}
structure Lx where
 T:FuncId→Bool
 X:FuncId→Bool
 fs:FuncId→List Nat
 dyn:FuncId→Bool
 names:String→Bool
def FV (L:Lx)(v:Value):Prop:=v=undef∨∃f x y,v=.func (.func f) x y∧L.dyn f=true
inductive NX (L:Lx) (D:Value→Prop):Next→Prop
 | value (u:Value) (h:D u):NX L D (.value u)
 | skip:NX L D .skip
 | enter (f:FuncId) (x:Array Value) (h:L.T f=true) (ha:∀s∈L.fs f,x.size≤s):NX L D (.enter f x)
structure LOk (Z:Zs)(P:Program)(L:Lx):Prop where
 body : ∀ f, L.T f = true → ∃ fn, P.funcs[f]? = some fn ∧ fn.body.isNone = false ∧ (fn.name == "runtime.NumGoroutine") = false
 ext:∀f,L.X f=true→∀x,Yes Z P (fun n=>∃u,n=Next.value u) (callFunc f x)
 meth:∀t i,P.info? t=some i→∀m∈i.methods,L.names m.name=true→∀f b,m.func=some (f,b)→(L.T f=true∧L.fs f=[])∨L.X f=true
 dyn:∀f,L.dyn f=true→L.T f=true∧L.fs f=[]
variable {L:Lx} {D:Value→Prop}
theorem NX.any {n:Next}(h:∃u,n=Next.value u):NX L (fun _=>True) n:=by
 obtain⟨u,rfl⟩:=h
 exact .value u trivial
theorem yes_value {s:Sem Value}(h:Yes Z P D s):Yes Z P (NX L D) (do Pure.pure (Next.value (← s))):=Yes.bind h fun u hu=>.pure (.value u hu)
theorem yes_unit {s:Sem Unit}(h:Ye Z P s):Yes Z P (NX L D) (do s;Pure.pure Next.skip):=Ye.bind h fun _=>.pure .skip
theorem yes_call (H:LOk Z P L)(f:FuncId)(x:Array Value)(h:(L.T f=true∧∀s∈L.fs f,x.size≤s)∨L.X f=true):Yes Z P (NX L fun _=>True) (callFunc f x):=by
 rcases h with⟨hT,hs⟩|hX
 ·obtain⟨fn,h1,h2,h3⟩:=H.body f hT
  unfold callFunc
  refine Yes.bind Yes.program fun p hp=>?_
  subst hp
  rw[h1]
  simp only[h2,h3,Bool.false_eq_true,if_false]
  exact .pure (.enter f x hT hs)
 ·exact (H.ext f hX x).mono fun _=>NX.any
theorem yes_info (t:TypeId):Yes Z P (fun i=>P.info? t=some i) (Go.typeInfo t):=by
 unfold Go.typeInfo
 refine Yes.bind Yes.program fun p hp=>?_
 subst hp
 cases h:p.info? t with
 | some i=>exact .pure rfl
 | none=>exact .stuck _
theorem yes_method (H:LOk Z P L)(name:String)(hn:L.names name=true):∀(d:Nat) (t:TypeId) (v:Value),Yes Z P (fun r=>(L.T r.1=true∧L.fs r.1=[])∨L.X r.1=true) (Go.method d t v name)
 | 0,_,_=>.unsupported _
 | d+1,t,v=>by
  unfold Go.method
  refine Yes.bind (yes_info t) fun i hi=>?_
  cases hm:i.methods.find? (·.name==name) with
  | none=>exact .stuck _
  | some m =>
   have h1:=Array.mem_of_find?_eq_some hm
   have h2:m.name=name:=by simpa using Array.find?_some hm
   dsimp only
   refine Ye.bind (ye_follow _ _ _) fun x=>?_
   cases hf:m.func with
   | none =>
    dsimp only
    refine Ye.bind (ye_get _ _) fun u=>?_
    split
    ·exact yes_method H name hn d _ _
    ·exact .runtimePanic _
    ·exact .stuck _
   | some r =>
    obtain⟨f,b⟩:=r
    dsimp only
    exact Ye.bind (ye_receiverAt _ _ _ _) fun _=>.pure (H.meth t i hi m h1 (by rw[h2];exact hn) f b hf)
theorem yes_callMethod (H:LOk Z P L)(r:Value)(name:String)(hn:L.names name=true)(x:Array Value):Yes Z P (NX L fun _=>True) (callMethod r name x):=by
 unfold callMethod
 split
 ·refine Yes.bind Yes.program fun p _=>?_
  refine Yes.bind (yes_method H name hn _ _ _) fun r hr=>?_
  refine yes_call H _ _ (hr.imp (fun q=>⟨q.1,fun s hs=>?_⟩) id)
  rw[q.2] at hs
  cases hs
 ·exact .runtimePanic _
 ·exact .stuck _
theorem ye_followBlind:∀(l:List FieldStep) (t:TypeId) (x:Option Value),Ye Z P (Go.followBlind l t x)
 | [],_,_=>.pure trivial
 | s :: l,t,x=>by
  unfold Go.followBlind
  repeat' (first|(with_reducible first|exact Yes.pure trivial|exact Yes.stuck _|exact Yes.uNoEntry _|exact Yes.uLimit _|exact Yes.uPointer _|exact Yes.uAddress|exact Yes.uExtern _|exact Yes.goPanic _|exact Yes.runtimePanic _|exact Yes.panicString _|exact Yes.boundsPanic _ _ _ _|exact Yes.program.mono fun _ _=>trivial|exact Yes.choose _|exact Yes.load _ _|exact Yes.store _ _ _|exact Yes.newCells _ _|exact Yes.newMap _ _|exact Yes.newNumber _ _|exact Yes.frozen _|exact Yes.noRoom|exact ye_typeInfo _|exact ye_underlying _|exact ye_cutType _|exact ye_typeStr _|exact ye_zeroValue _|exact ye_sizeOf _|exact ye_isAgg _|exact ye_loadCells _ _|exact ye_storeCells _ _ _|exact ye_loadVar _ _|exact ye_storeVar _ _ _|exact ye_newRow _ _|exact ye_newVar _ _|exact ye_elemOf _|exact ye_part _ _ _|exact ye_asIntOf _|exact ye_asInt _|exact ye_asBool _|exact ye_asString _|exact ye_asAddr _|exact ye_sureAddr _|exact ye_askRoom _|exact ye_byteOf _|exact ye_partAt _ _ _|exact ye_fieldPlace _ _|exact Yes.behindNumber _|exact Yes.numberAt _|exact ye_sameAddr _ _|exact ye_samePointer _ _|exact ye_alloc _ _ _|exact ye_box _ _|exact ye_loadAt _ _|exact ye_storeAt _ _ _|exact ye_fieldAt _ _ _|exact ye_indexAt _ _ _|exact ye_sliceBound _ _ _|exact ye_sliceBounds _ _ _ _ _ _|exact ye_slice _ _ _ _ _|exact ye_sliceAt _ _ _ _ _|exact ye_index _ _ _|exact ye_makeInterface _ _|exact ye_makeMap _ _|exact ye_makeSlice _ _ _|exact ye_buildSlice _ _ _|exact ye_build _ _|exact ye_typeAssert _ _ _ _|exact ye_extract _ _|exact ye_equal _ _ _|exact ye_eqGuard _ _ _ _ _ _|exact ye_checkKey _ _ _ _|exact ye_findAsking _ _ _ _|exact ye_findKey _ _ _|exact ye_keyThatStays _ _|exact ye_lookup _ _ _ _|exact ye_findKey _ _ _|exact ye_unsafeAdd _ _ _ _|exact ye_asNumber _ _|exact ye_movedNumber _ _ _|exact ye_movedPointer _ _ _|exact ye_twoPlaces _ _|exact ye_addrSub _ _ _|exact ye_addrCmp _ _ _|exact ye_addrMod _ _ _|exact ye_intArith _ _ _ _|exact ye_intDiv _ _ _ _|exact ye_intBits _ _ _ _|exact ye_intCmp _ _ _|exact ye_shift _ _ _ _ _|exact ye_stringOp _ _ _|exact ye_floatArith _ _ _ _|exact ye_floatCmp _ _ _ _|exact ye_floatToFloat _ _ _|exact ye_carith _ _ _ _|exact ye_ccmp _ _ _ _|exact ye_cconv _ _ _|exact ye_cadd _ _|exact ye_csub _ _|exact ye_cmul _ _|exact ye_cquo _ _|exact ye_product _ _ _ _|exact ye_corrected _ _ _ _ _|exact ye_quotient _ _ _ _|exact ye_complexOp _ _ _ _ _ _|exact ye_binOp _ _ _ _|exact ye_unary _ _|exact ye_len _ _ _|exact ye_lenOf _|exact ye_firstCells _ _ _|exact ye_copy _ _ _|exact ye_append _ _ _|exact ye_ofHandle _|exact ye_handle _|exact ye_noPack _ _|exact ye_noPackHeld _ _|exact ye_noPackNamed _ _|exact ye_noPackMethods _ _|exact ye_spelt _|exact ye_under _|exact ye_kind _|exact ye_hasName _|exact ye_elemQ _|exact ye_implements _ _|exact ye_directly _ _|exact ye_toType _|exact ye_ofRtype _|exact ye_telem _|exact ye_implements_ _ _|exact ye_assignableTo _ _|exact Yes.dead (dead_valueError _ _)|exact ye_vmk _ _ _|exact ye_unpack _|exact ye_partsAny _|exact ye_parts _|exact ye_isNil _ _ _ _|exact ye_velem _ _ _ _|exact ye_ssa _ _ _ _ _|exact ye_receiverAt _ _ _ _|exact ye_followBlind l _ _|refine Ye.bind ?_ fun _=>?_)|split|dsimp only)
theorem ye_nilAhead (name:String):∀(d:Nat) (t:TypeId) (v:Value),Ye Z P (Go.nilAhead d t v name)
 | 0,_,_=>.pure trivial
 | d+1,t,v=>by
  unfold Go.nilAhead
  repeat' (first|(with_reducible first|exact Yes.pure trivial|exact Yes.stuck _|exact Yes.uNoEntry _|exact Yes.uLimit _|exact Yes.uPointer _|exact Yes.uAddress|exact Yes.uExtern _|exact Yes.goPanic _|exact Yes.runtimePanic _|exact Yes.panicString _|exact Yes.boundsPanic _ _ _ _|exact Yes.program.mono fun _ _=>trivial|exact Yes.choose _|exact Yes.load _ _|exact Yes.store _ _ _|exact Yes.newCells _ _|exact Yes.newMap _ _|exact Yes.newNumber _ _|exact Yes.frozen _|exact Yes.noRoom|exact ye_typeInfo _|exact ye_underlying _|exact ye_cutType _|exact ye_typeStr _|exact ye_zeroValue _|exact ye_sizeOf _|exact ye_isAgg _|exact ye_loadCells _ _|exact ye_storeCells _ _ _|exact ye_loadVar _ _|exact ye_storeVar _ _ _|exact ye_newRow _ _|exact ye_newVar _ _|exact ye_elemOf _|exact ye_part _ _ _|exact ye_asIntOf _|exact ye_asInt _|exact ye_asBool _|exact ye_asString _|exact ye_asAddr _|exact ye_sureAddr _|exact ye_askRoom _|exact ye_byteOf _|exact ye_partAt _ _ _|exact ye_fieldPlace _ _|exact Yes.behindNumber _|exact Yes.numberAt _|exact ye_sameAddr _ _|exact ye_samePointer _ _|exact ye_alloc _ _ _|exact ye_box _ _|exact ye_loadAt _ _|exact ye_storeAt _ _ _|exact ye_fieldAt _ _ _|exact ye_indexAt _ _ _|exact ye_sliceBound _ _ _|exact ye_sliceBounds _ _ _ _ _ _|exact ye_slice _ _ _ _ _|exact ye_sliceAt _ _ _ _ _|exact ye_index _ _ _|exact ye_makeInterface _ _|exact ye_makeMap _ _|exact ye_makeSlice _ _ _|exact ye_buildSlice _ _ _|exact ye_build _ _|exact ye_typeAssert _ _ _ _|exact ye_extract _ _|exact ye_equal _ _ _|exact ye_eqGuard _ _ _ _ _ _|exact ye_checkKey _ _ _ _|exact ye_findAsking _ _ _ _|exact ye_findKey _ _ _|exact ye_keyThatStays _ _|exact ye_lookup _ _ _ _|exact ye_findKey _ _ _|exact ye_unsafeAdd _ _ _ _|exact ye_asNumber _ _|exact ye_movedNumber _ _ _|exact ye_movedPointer _ _ _|exact ye_twoPlaces _ _|exact ye_addrSub _ _ _|exact ye_addrCmp _ _ _|exact ye_addrMod _ _ _|exact ye_intArith _ _ _ _|exact ye_intDiv _ _ _ _|exact ye_intBits _ _ _ _|exact ye_intCmp _ _ _|exact ye_shift _ _ _ _ _|exact ye_stringOp _ _ _|exact ye_floatArith _ _ _ _|exact ye_floatCmp _ _ _ _|exact ye_floatToFloat _ _ _|exact ye_carith _ _ _ _|exact ye_ccmp _ _ _ _|exact ye_cconv _ _ _|exact ye_cadd _ _|exact ye_csub _ _|exact ye_cmul _ _|exact ye_cquo _ _|exact ye_product _ _ _ _|exact ye_corrected _ _ _ _ _|exact ye_quotient _ _ _ _|exact ye_complexOp _ _ _ _ _ _|exact ye_binOp _ _ _ _|exact ye_unary _ _|exact ye_len _ _ _|exact ye_lenOf _|exact ye_firstCells _ _ _|exact ye_copy _ _ _|exact ye_append _ _ _|exact ye_ofHandle _|exact ye_handle _|exact ye_noPack _ _|exact ye_noPackHeld _ _|exact ye_noPackNamed _ _|exact ye_noPackMethods _ _|exact ye_spelt _|exact ye_under _|exact ye_kind _|exact ye_hasName _|exact ye_elemQ _|exact ye_implements _ _|exact ye_directly _ _|exact ye_toType _|exact ye_ofRtype _|exact ye_telem _|exact ye_implements_ _ _|exact ye_assignableTo _ _|exact Yes.dead (dead_valueError _ _)|exact ye_vmk _ _ _|exact ye_unpack _|exact ye_partsAny _|exact ye_parts _|exact ye_isNil _ _ _ _|exact ye_velem _ _ _ _|exact ye_ssa _ _ _ _ _|exact ye_receiverAt _ _ _ _|exact ye_nilAhead name d _ _|exact ye_followBlind _ _ _|refine Ye.bind ?_ fun _=>?_)|split|dsimp only)
end
end Go.Proofs.YtjeicikflkjacaaGreatDoor.Po

/- Goroutine 0 beside leavers: the operations. -/
set_option linter.unusedSimpArgs false
set_option linter.unusedVariables false
namespace Go.Proofs.YtjeicikflkjacaaGreatDoor.Po
open Go
section
variable {Z:Zs} {P:Program} {α δ:Type} {Q:α→Prop} {R:δ→Prop}
variable {L:Lx} {D:Value→Prop}
theorem ye_floatToInt (k:FloatKind)(b:Nat)(d:IntKind):Ye Z P (Conv.floatToInt k b d):=by
 unfold Conv.floatToInt
 repeat' (first|(with_reducible first|exact Yes.pure trivial|exact Yes.stuck _|exact Yes.uNoEntry _|exact Yes.uLimit _|exact Yes.uPointer _|exact Yes.uAddress|exact Yes.uExtern _|exact Yes.goPanic _|exact Yes.runtimePanic _|exact Yes.panicString _|exact Yes.boundsPanic _ _ _ _|exact Yes.program.mono fun _ _=>trivial|exact Yes.choose _|exact Yes.load _ _|exact Yes.store _ _ _|exact Yes.newCells _ _|exact Yes.newMap _ _|exact Yes.newNumber _ _|exact Yes.frozen _|exact Yes.noRoom|exact ye_typeInfo _|exact ye_underlying _|exact ye_cutType _|exact ye_typeStr _|exact ye_zeroValue _|exact ye_sizeOf _|exact ye_isAgg _|exact ye_loadCells _ _|exact ye_storeCells _ _ _|exact ye_loadVar _ _|exact ye_storeVar _ _ _|exact ye_newRow _ _|exact ye_newVar _ _|exact ye_elemOf _|exact ye_part _ _ _|exact ye_asIntOf _|exact ye_asInt _|exact ye_asBool _|exact ye_asString _|exact ye_asAddr _|exact ye_sureAddr _|exact ye_askRoom _|exact ye_byteOf _|exact ye_partAt _ _ _|exact ye_fieldPlace _ _|exact Yes.behindNumber _|exact Yes.numberAt _|exact ye_sameAddr _ _|exact ye_samePointer _ _|exact ye_alloc _ _ _|exact ye_box _ _|exact ye_loadAt _ _|exact ye_storeAt _ _ _|exact ye_fieldAt _ _ _|exact ye_indexAt _ _ _|exact ye_sliceBound _ _ _|exact ye_sliceBounds _ _ _ _ _ _|exact ye_slice _ _ _ _ _|exact ye_sliceAt _ _ _ _ _|exact ye_index _ _ _|exact ye_makeInterface _ _|exact ye_makeMap _ _|exact ye_makeSlice _ _ _|exact ye_buildSlice _ _ _|exact ye_build _ _|exact ye_typeAssert _ _ _ _|exact ye_extract _ _|exact ye_equal _ _ _|exact ye_eqGuard _ _ _ _ _ _|exact ye_checkKey _ _ _ _|exact ye_findAsking _ _ _ _|exact ye_findKey _ _ _|exact ye_keyThatStays _ _|exact ye_lookup _ _ _ _|exact ye_findKey _ _ _|exact ye_unsafeAdd _ _ _ _|exact ye_asNumber _ _|exact ye_movedNumber _ _ _|exact ye_movedPointer _ _ _|exact ye_twoPlaces _ _|exact ye_addrSub _ _ _|exact ye_addrCmp _ _ _|exact ye_addrMod _ _ _|exact ye_intArith _ _ _ _|exact ye_intDiv _ _ _ _|exact ye_intBits _ _ _ _|exact ye_intCmp _ _ _|exact ye_shift _ _ _ _ _|exact ye_stringOp _ _ _|exact ye_floatArith _ _ _ _|exact ye_floatCmp _ _ _ _|exact ye_floatToFloat _ _ _|exact ye_carith _ _ _ _|exact ye_ccmp _ _ _ _|exact ye_cconv _ _ _|exact ye_cadd _ _|exact ye_csub _ _|exact ye_cmul _ _|exact ye_cquo _ _|exact ye_product _ _ _ _|exact ye_corrected _ _ _ _ _|exact ye_quotient _ _ _ _|exact ye_complexOp _ _ _ _ _ _|exact ye_binOp _ _ _ _|exact ye_unary _ _|exact ye_len _ _ _|exact ye_lenOf _|exact ye_firstCells _ _ _|exact ye_copy _ _ _|exact ye_append _ _ _|exact ye_ofHandle _|exact ye_handle _|exact ye_noPack _ _|exact ye_noPackHeld _ _|exact ye_noPackNamed _ _|exact ye_noPackMethods _ _|exact ye_spelt _|exact ye_under _|exact ye_kind _|exact ye_hasName _|exact ye_elemQ _|exact ye_implements _ _|exact ye_directly _ _|exact ye_toType _|exact ye_ofRtype _|exact ye_telem _|exact ye_implements_ _ _|exact ye_assignableTo _ _|exact Yes.dead (dead_valueError _ _)|exact ye_vmk _ _ _|exact ye_unpack _|exact ye_partsAny _|exact ye_parts _|exact ye_isNil _ _ _ _|exact ye_velem _ _ _ _|exact ye_ssa _ _ _ _ _|exact ye_receiverAt _ _ _ _|refine Ye.bind ?_ fun _=>?_)|split|dsimp only)
theorem ye_intToInt (d:IntKind)(n:Int):Ye Z P (Conv.intToInt d n):=by
 unfold Conv.intToInt
 repeat' (first|(with_reducible first|exact Yes.pure trivial|exact Yes.stuck _|exact Yes.uNoEntry _|exact Yes.uLimit _|exact Yes.uPointer _|exact Yes.uAddress|exact Yes.uExtern _|exact Yes.goPanic _|exact Yes.runtimePanic _|exact Yes.panicString _|exact Yes.boundsPanic _ _ _ _|exact Yes.program.mono fun _ _=>trivial|exact Yes.choose _|exact Yes.load _ _|exact Yes.store _ _ _|exact Yes.newCells _ _|exact Yes.newMap _ _|exact Yes.newNumber _ _|exact Yes.frozen _|exact Yes.noRoom|exact ye_typeInfo _|exact ye_underlying _|exact ye_cutType _|exact ye_typeStr _|exact ye_zeroValue _|exact ye_sizeOf _|exact ye_isAgg _|exact ye_loadCells _ _|exact ye_storeCells _ _ _|exact ye_loadVar _ _|exact ye_storeVar _ _ _|exact ye_newRow _ _|exact ye_newVar _ _|exact ye_elemOf _|exact ye_part _ _ _|exact ye_asIntOf _|exact ye_asInt _|exact ye_asBool _|exact ye_asString _|exact ye_asAddr _|exact ye_sureAddr _|exact ye_askRoom _|exact ye_byteOf _|exact ye_partAt _ _ _|exact ye_fieldPlace _ _|exact Yes.behindNumber _|exact Yes.numberAt _|exact ye_sameAddr _ _|exact ye_samePointer _ _|exact ye_alloc _ _ _|exact ye_box _ _|exact ye_loadAt _ _|exact ye_storeAt _ _ _|exact ye_fieldAt _ _ _|exact ye_indexAt _ _ _|exact ye_sliceBound _ _ _|exact ye_sliceBounds _ _ _ _ _ _|exact ye_slice _ _ _ _ _|exact ye_sliceAt _ _ _ _ _|exact ye_index _ _ _|exact ye_makeInterface _ _|exact ye_makeMap _ _|exact ye_makeSlice _ _ _|exact ye_buildSlice _ _ _|exact ye_build _ _|exact ye_typeAssert _ _ _ _|exact ye_extract _ _|exact ye_equal _ _ _|exact ye_eqGuard _ _ _ _ _ _|exact ye_checkKey _ _ _ _|exact ye_findAsking _ _ _ _|exact ye_findKey _ _ _|exact ye_keyThatStays _ _|exact ye_lookup _ _ _ _|exact ye_findKey _ _ _|exact ye_unsafeAdd _ _ _ _|exact ye_asNumber _ _|exact ye_movedNumber _ _ _|exact ye_movedPointer _ _ _|exact ye_twoPlaces _ _|exact ye_addrSub _ _ _|exact ye_addrCmp _ _ _|exact ye_addrMod _ _ _|exact ye_intArith _ _ _ _|exact ye_intDiv _ _ _ _|exact ye_intBits _ _ _ _|exact ye_intCmp _ _ _|exact ye_shift _ _ _ _ _|exact ye_stringOp _ _ _|exact ye_floatArith _ _ _ _|exact ye_floatCmp _ _ _ _|exact ye_floatToFloat _ _ _|exact ye_carith _ _ _ _|exact ye_ccmp _ _ _ _|exact ye_cconv _ _ _|exact ye_cadd _ _|exact ye_csub _ _|exact ye_cmul _ _|exact ye_cquo _ _|exact ye_product _ _ _ _|exact ye_corrected _ _ _ _ _|exact ye_quotient _ _ _ _|exact ye_complexOp _ _ _ _ _ _|exact ye_binOp _ _ _ _|exact ye_unary _ _|exact ye_len _ _ _|exact ye_lenOf _|exact ye_firstCells _ _ _|exact ye_copy _ _ _|exact ye_append _ _ _|exact ye_ofHandle _|exact ye_handle _|exact ye_noPack _ _|exact ye_noPackHeld _ _|exact ye_noPackNamed _ _|exact ye_noPackMethods _ _|exact ye_spelt _|exact ye_under _|exact ye_kind _|exact ye_hasName _|exact ye_elemQ _|exact ye_implements _ _|exact ye_directly _ _|exact ye_toType _|exact ye_ofRtype _|exact ye_telem _|exact ye_implements_ _ _|exact ye_assignableTo _ _|exact Yes.dead (dead_valueError _ _)|exact ye_vmk _ _ _|exact ye_unpack _|exact ye_partsAny _|exact ye_parts _|exact ye_isNil _ _ _ _|exact ye_velem _ _ _ _|exact ye_ssa _ _ _ _ _|exact ye_receiverAt _ _ _ _|exact ye_floatToInt _ _ _|refine Ye.bind ?_ fun _=>?_)|split|dsimp only)
def opT (L:Lx)(P:Program)(g:FuncId)(o:Oper):Bool :=
 if (o.dst.map (L.fs g).contains).getD false then
  match o.op with
  | .makeFunc (.func f) _ _=>L.dyn f
  | .move (.tmp s)|.assign (.tmp s)=>(L.fs g).contains s
  | _=>false
 else match o.op with
  | .move _|.assign _|.pick ..|.alloc _|.box ..|.build ..|.buildSlice ..|.load ..|.store ..|.nilCheck _|.binOp ..|.unOp ..|.makeInterface ..|.makeFunc ..|.makeMap ..|.makeChan ..|.makeSlice ..|.slice ..|.fieldAddr ..|.indexAddr ..|.index ..|.lookup ..|.mapUpdate ..|.typeAssert ..|.extract ..|.panic _=>true
  | .convert s t _=>match P.underlying s,P.underlying t with
   | some (.int _),some (.int _)=>true
   | _,_=>false
  | .call c=>match c.callee with
   | .builtin .len|.builtin .append|.builtin .copy=>true
   | .builtin _=>false
   | .value (.func f)=>(L.T f && (L.fs f).all fun s=>decide (c.args.size≤s)) || L.X f
   | .value (.tmp s)=>(L.fs g).contains s
   | .value _=>false
   | .invoke _ name=>L.names name
  | _=>false
structure Rd (L:Lx)(g:FuncId)(ρ:Operand→Value):Prop where
 fn:∀f,ρ (.func f)=.func (.func f) #[] #[]
 slot:∀s∈L.fs g,FV L (ρ (.tmp s))
theorem ye_convert {s t:TypeId}{k k':IntKind}(h1:P.underlying s=some (.int k))(h2:P.underlying t=some (.int k'))(x:Value):Ye Z P (Go.convert s t x):=by
 have hu:∀(t:TypeId) (d:TypeDesc),P.underlying t=some d→Yes Z P (fun x=>x=d) (Go.underlying t):=fun t d h=>by
  unfold Go.underlying
  refine Yes.bind Yes.program fun p hp=>?_
  subst hp
  rw[h]
  exact .pure rfl
 unfold Go.convert
 refine Yes.bind (hu s _ h1) fun a ha=>?_
 subst ha
 refine Yes.bind (hu t _ h2) fun b hb=>?_
 subst hb
 cases x<;>first|exact ye_intToInt _ _|exact ye_floatToInt _ _ _|exact .unsupported _|(rename_i o;cases o<;>exact .unsupported _)
theorem ye_makeChan (t:TypeId)(x:Value):Ye Z P (Instr.makeChan t x):=by
 unfold Instr.makeChan
 refine Ye.bind (ye_asInt _) fun n=>Ye.bind (ye_underlying _) fun d=>?_
 split
 ·refine Ye.bind (ye_typeInfo _) fun i=>?_
  split
  ·exact .dead (Dead.bindL (.runtimePanic _))
  ·exact Ye.bind (.newObj _ fun _ _ q=>by cases q) fun _=>.pure trivial
 ·exact .stuck _
theorem NX.free {g:FuncId}{o:Oper}(hd:(o.dst.map (L.fs g).contains).getD false=false){n:Next}(h:NX L (fun _=>True) n):NX L (fun u=>∀s,o.dst=some s→s∈L.fs g→FV L u) n:=by
 cases h with
 | value u _ =>
  refine .value u fun s hs hm=>?_
  rw[hs] at hd
  simp only[Option.map_some,Option.getD_some] at hd
  rw[List.contains_iff_mem.2 hm] at hd
  cases hd
 | skip=>exact .skip
 | enter f x h ha=>exact .enter f x h ha
theorem yes_free {g:FuncId}{o:Oper}(hd:(o.dst.map (L.fs g).contains).getD false=false){s:Sem Next}(h:Yes Z P (NX L fun _=>True) s):Yes Z P (NX L fun u=>∀s,o.dst=some s→s∈L.fs g→FV L u) s:=h.mono fun _=>NX.free hd
theorem yes_deferred (H:LOk Z P L)(v:Value)(x:Array Value)(h:(∃f,v=.func (.func f) #[] #[]∧((L.T f=true∧∀s∈L.fs f,x.size≤s)∨L.X f=true))∨FV L v):Yes Z P (NX L fun _=>True) (do let d ← Deferred.ofValue v x;invoke d.target d.args):=by
 rcases h with⟨f,rfl,h⟩|h
 ·show Yes Z P _ (callFunc f (#[]++x++#[]))
  rw[Array.empty_append,Array.append_empty]
  exact yes_call H f x h
 ·rcases h with rfl|⟨f,a,b,rfl,hd⟩
  ·exact .stuck _
  ·obtain⟨h1,h2⟩:=H.dyn f hd
   exact yes_call H f (a++x++b) (.inl ⟨h1,fun s hs=>by rw[h2] at hs;cases hs⟩)
theorem op_free {g:FuncId}{o:Oper}(h:opT L P g o=true)(hd:(o.dst.map (L.fs g).contains).getD false=true)(ρ:Operand→Value):∃u,execOp ρ o=Pure.pure (Next.value u):=by
 unfold opT at h
 rw[hd] at h
 simp only[if_true] at h
 unfold execOp
 split at h
 ·rename_i f a b ho
  rw[ho]
  exact⟨_,rfl⟩
 ·rename_i s ho
  rw[ho]
  exact⟨_,rfl⟩
 ·rename_i s ho
  rw[ho]
  exact⟨_,rfl⟩
 ·cases h
theorem op_yes (H:LOk Z P L){g:FuncId}{o:Oper}(h:opT L P g o=true){ρ:Operand→Value}(hρ:Rd L g ρ):Yes Z P (NX L fun u=>∀s,o.dst=some s→s∈L.fs g→FV L u) (execOp ρ o):=by
 unfold opT at h
 cases hd:(o.dst.map (L.fs g).contains).getD false with
 | true =>
  rw[hd] at h
  simp only[if_true] at h
  unfold execOp
  split at h
  ·rename_i f a b ho
   rw[ho]
   exact yes_value (.pure fun _ _ _=>.inr ⟨f,_,_,rfl,h⟩)
  ·rename_i s ho
   rw[ho]
   exact .pure (.value _ fun _ _ _=>hρ.slot s (List.contains_iff_mem.1 h))
  ·rename_i s ho
   rw[ho]
   exact .pure (.value _ fun _ _ _=>hρ.slot s (List.contains_iff_mem.1 h))
  ·cases h
 | false =>
  rw[hd] at h
  simp only[Bool.false_eq_true,if_false] at h
  refine yes_free hd ?_
  unfold execOp
  cases ho:o.op with
  | move x=>exact .pure (.value _ trivial)
  | assign x=>exact .pure (.value _ trivial)
  | pick c a b=>exact Ye.bind (ye_asBool _) fun _=>.pure (.value _ trivial)
  | alloc t=>exact yes_value (ye_alloc _ _ _)
  | box t x=>exact yes_value (ye_box _ _)
  | build t ps=>exact yes_value (ye_build _ _)
  | buildSlice t n ps=>exact yes_value (ye_buildSlice _ _ _)
  | load t a=>exact yes_value (ye_loadAt _ _)
  | store t a x=>exact yes_unit (ye_storeAt _ _ _)
  | nilCheck x =>
   dsimp only
   split
   ·exact .runtimePanic _
   ·exact .runtimePanic _
   ·exact .runtimePanic _
   ·split
    ·exact .runtimePanic _
    ·refine Ye.bind (Yes.program.mono fun _ _=>trivial) fun p=>Ye.bind (ye_nilAhead _ _ _ _) fun b=>?_
     split
     ·exact .dead (Dead.bindL (.unsupported _))
     ·exact .pure (.value _ trivial)
    ·exact .pure (.value _ trivial)
   ·exact .pure (.value _ trivial)
  | binOp op t x y yt=>exact yes_value (Ye.bind (ye_eqGuard _ _ _ _ _ _) fun _=>ye_binOp _ _ _ _)
  | unOp op t x=>exact yes_value (ye_unary _ _)
  | makeInterface t x=>exact yes_value (ye_makeInterface _ _)
  | makeFunc f a b=>exact yes_value (.pure trivial)
  | makeMap t r=>exact yes_value (ye_makeMap _ _)
  | makeChan t n=>exact yes_value (ye_makeChan _ _)
  | makeSlice t a b=>exact yes_value (ye_makeSlice _ _ _)
  | slice t x a b c=>exact yes_value (ye_sliceAt _ _ _ _ _)
  | fieldAddr s x f=>exact yes_value (ye_fieldAt _ _ _)
  | indexAddr t x i=>exact yes_value (ye_indexAt _ _ _)
  | index t x i=>exact yes_value (ye_index _ _ _)
  | lookup t x i c=>exact yes_value (ye_lookup _ _ _ _)
  | mapUpdate t m k x=>exact yes_unit (ye_mapUpdate _ _ _ _)
  | typeAssert x t u c=>exact yes_value (ye_typeAssert _ _ _ _)
  | extract t i=>exact yes_value (ye_extract _ _)
  | panic x=>exact yes_value (.dead (dead_panic _))
  | convert s t x =>
   rw[ho] at h
   dsimp only at h
   split at h
   ·rename_i k k' h1 h2
    exact yes_value (ye_convert h1 h2 _)
   ·cases h
  | call c =>
   rw[ho] at h
   dsimp only at h ⊢
   obtain⟨callee,args,ts⟩:=c
   dsimp only at h ⊢
   cases callee with
   | builtin b =>
    cases b with
    | len=>exact yes_value (ye_len _ _ _)
    | append=>exact yes_value (ye_append _ _ _)
    | copy=>exact yes_value (ye_copy _ _ _)
    | _=>cases h
   | value f =>
    refine yes_deferred H (ρ f) (args.map ρ) ?_
    cases f with
    | func f =>
     refine .inl ⟨f,hρ.fn f,?_⟩
     dsimp only at h
     rw[Bool.or_eq_true,Bool.and_eq_true,List.all_eq_true] at h
     exact h.imp (fun q=>⟨q.1,fun s hs=>by simpa using q.2 s hs⟩) id
    | tmp s=>exact .inr (hρ.slot s (List.contains_iff_mem.1 h))
    | _=>cases h
   | invoke r name =>
    have e:(#[ρ r]++args.map ρ:Array Value)[0]?=some (ρ r):=by rw[Array.getElem?_append_left (show 0<(#[ρ r]:Array Value).size from Nat.zero_lt_one)];rfl
    show Yes Z P _ (invoke (.fn (.method name) #[]) (#[ρ r]++args.map ρ))
    unfold invoke
    dsimp only
    rw[e]
    exact yes_callMethod H _ name h _
  | _=>rw[ho] at h;cases h
end
end Go.Proofs.YtjeicikflkjacaaGreatDoor.Po

/- Goroutine 0 beside leavers: a step of a frame, here and there. -/
set_option linter.unusedSimpArgs false
set_option linter.unusedVariables false
namespace Go.Proofs.YtjeicikflkjacaaGreatDoor.Po
open Go
open Par (Fm Gr on Ag runT_draws putAt)
def codeT (L:Lx)(P:Program)(g:FuncId):Code→Bool
 | .skip=>true
 | .exit _=>true
 | .label _=>true
 | .goto _=>true
 | .ret=>true
 | .region _ ops _=>ops.all (opT L P g)
 | .seq a b=>codeT L P g a && codeT L P g b
 | .cond _ a b=>codeT L P g a && codeT L P g b
 | .block _ b=>codeT L P g b
 | .loop b=>codeT L P g b
 | .scope b=>codeT L P g b
 | _=>false
def itemT (L:Lx)(P:Program)(g:FuncId):Item→Bool
 | .code c=>codeT L P g c
 | .inBlock _=>true
 | .inLoop c=>codeT L P g c
 | .inScope c=>codeT L P g c
 | .inRegion ops is=>is.all fun i=>(ops[i]?).all (opT L P g)
 | _=>false
def todoT (L:Lx)(P:Program)(g:FuncId)(k:List Item):Prop:=∀x∈k,itemT L P g x=true
theorem reg_head {L:Lx}{P:Program}{g:FuncId}{ops:Array Oper}{i:Nat}{rest:List Nat}(h:itemT L P g (.inRegion ops (i :: rest))=true){o:Oper}(ho:ops[i]?=some o):opT L P g o=true:=by
 simp only[itemT,List.all_cons,Bool.and_eq_true,ho,Option.all_some] at h
 exact h.1
theorem reg_tail {L:Lx}{P:Program}{g:FuncId}{ops:Array Oper}{i:Nat}{rest:List Nat}(h:itemT L P g (.inRegion ops (i :: rest))=true):itemT L P g (.inRegion ops rest)=true:=by
 simp only[itemT,List.all_cons,Bool.and_eq_true] at h ⊢
 exact h.2
theorem reg_all {L:Lx}{P:Program}{g:FuncId}{ops:Array Oper}(h:ops.all (opT L P g)=true)(is:List Nat):itemT L P g (.inRegion ops is)=true:=by
 simp only[itemT,List.all_eq_true]
 intro i _
 cases ho:ops[i]? with
 | none=>rfl
 | some o =>
  rw[Array.all_eq_true] at h
  obtain⟨hlt,rfl⟩:=Array.getElem?_eq_some_iff.1 ho
  exact h i hlt
def SlT (L:Lx)(g:FuncId)(t:Array Value):Prop:=∀s∈L.fs g,FV L (t.getD s undef)
def TextsT (L:Lx)(P:Program):Prop:=∀f,L.T f=true→∃fn c,P.funcs[f]?=some fn∧fn.body=some c∧codeT L P f c=true
section
variable {Z:Zs} {P:Program} {L:Lx} {g:FuncId}
theorem todoT.nil:todoT L P g []:=fun _ h=>by cases h
theorem todoT.cons {x:Item}{k:List Item}(h:itemT L P g x=true)(hk:todoT L P g k):todoT L P g (x :: k):=fun y hy=>by
 rcases List.mem_cons.1 hy with rfl|hy
 ·exact h
 ·exact hk y hy
theorem todoT.head {x:Item}{k:List Item}(h:todoT L P g (x :: k)):itemT L P g x=true:=h x (by simp)
theorem todoT.tail {x:Item}{k:List Item}(h:todoT L P g (x :: k)):todoT L P g k:=fun y hy=>h y (by simp[hy])
def Inert (K:List Item):Prop:=(∀id,exitTo id K=none)∧∀l,gotoIn l K=none
theorem inert_nil:Inert []:=⟨fun _=>rfl,fun _=>rfl⟩
theorem inert_code (c:Code):Inert [.code c]:=⟨fun id=>by simp[exitTo],fun l=>by simp[gotoIn]⟩
theorem exit_app (id:Nat){G:List Item}(hG:Inert G):∀ {k k':List Item},exitTo id (k++G)=some k'→∃k1,k'=k1++G∧exitTo id k=some k1∧∀K,exitTo id (k++K)=some (k1++K)
 | [],k',h=>by
  rw[List.nil_append,hG.1] at h
  cases h
 | x :: k,k',h=>by
  by_cases hx:∃i,x=.inBlock i
  ·obtain⟨i,rfl⟩:=hx
   rw[List.cons_append] at h
   unfold exitTo at h
   by_cases hi:(i==id)=true
   ·rw[if_pos hi] at h
    obtain rfl:=Option.some.inj h
    exact⟨k,rfl,by unfold exitTo;rw[if_pos hi],fun K=>by rw[List.cons_append];unfold exitTo;rw[if_pos hi]⟩
   ·rw[if_neg hi] at h
    obtain⟨k1,h1,h2,h3⟩:=exit_app id hG h
    exact⟨k1,h1,by unfold exitTo;rw[if_neg hi];exact h2,fun K=>by rw[List.cons_append];unfold exitTo;rw[if_neg hi];exact h3 K⟩
  ·have e:∀r,exitTo id (x :: r)=exitTo id r:=fun r=>by
    cases x<;>first|exact absurd ⟨_,rfl⟩ hx|simp[exitTo]
   rw[List.cons_append,e] at h
   obtain⟨k1,h1,h2,h3⟩:=exit_app id hG h
   exact⟨k1,h1,by rw[e];exact h2,fun K=>by rw[List.cons_append,e];exact h3 K⟩
theorem todoT.exit (id:Nat):∀ {k k':List Item},todoT L P g k→exitTo id k=some k'→todoT L P g k'
 | [],k',_,h=>by simp[exitTo] at h
 | x :: k,k',hk,h=>by
  unfold exitTo at h
  split at h
  ·rename_i e
   injection e with _ e2
   subst e2
   split at h
   ·obtain rfl:=Option.some.inj h
    exact hk.tail
   ·exact hk.tail.exit id h
  ·rename_i e
   injection e with _ e2
   subst e2
   exact hk.tail.exit id h
  ·cases ‹_ :: _=[]›
theorem find_code (l:Nat):∀ {c r:Code},codeT L P g c=true→findLabel c l=some r→codeT L P g r=true
 | .seq a b,r,hc,h=>by
  rw[codeT,Bool.and_eq_true] at hc
  unfold findLabel at h
  split at h
  ·rename_i e
   obtain rfl:=Option.some.inj h
   rw[codeT,Bool.and_eq_true]
   exact⟨find_code l hc.1 e,hc.2⟩
  ·exact find_code l hc.2 h
 | .label l',r,hc,h=>by
  unfold findLabel at h
  split at h
  ·obtain rfl:=Option.some.inj h
   rfl
  ·cases h
 | .skip,_,_,h|.region ..,_,_,h|.cond ..,_,_,h|.block ..,_,_,h|.loop ..,_,_,h|.exit ..,_,_,h|.scope ..,_,_,h|.goto ..,_,_,h|.ret,_,_,h=>by simp[findLabel] at h
 | .rangeFunc ..,_,hc,_|.refuse ..,_,hc,_=>by cases hc
theorem todoT.goto (l:Nat):∀ {k k':List Item},todoT L P g k→gotoIn l k=some k'→todoT L P g k'
 | [],k',_,h=>by simp[gotoIn] at h
 | x :: k,k',hk,h=>by
  unfold gotoIn at h
  split at h
  ·rename_i e
   injection e with e1 e2
   subst e1 e2
   split at h
   ·rename_i e3
    obtain rfl:=Option.some.inj h
    exact .cons (find_code l hk.head e3) hk
   ·exact hk.tail.goto l h
  ·rename_i e
   injection e with _ e2
   subst e2
   exact hk.tail.goto l h
  ·cases ‹_ :: _=[]›
theorem goto_app (l:Nat){G:List Item}(hG:Inert G):∀ {k k':List Item},gotoIn l (k++G)=some k'→∃k1,k'=k1++G∧gotoIn l k=some k1∧∀K,gotoIn l (k++K)=some (k1++K)
 | [],k',h=>by
  rw[List.nil_append,hG.2] at h
  cases h
 | x :: k,k',h=>by
  by_cases hx:∃c,x=.inScope c
  ·obtain⟨c,rfl⟩:=hx
   rw[List.cons_append] at h
   unfold gotoIn at h
   cases hf:findLabel c l with
   | some r =>
    rw[hf] at h
    obtain rfl:=Option.some.inj h
    exact⟨.code r :: .inScope c :: k,rfl,by unfold gotoIn;rw[hf],fun K=>by rw[List.cons_append];unfold gotoIn;rw[hf];rfl⟩
   | none =>
    rw[hf] at h
    obtain⟨k1,h1,h2,h3⟩:=goto_app l hG h
    exact⟨k1,h1,by unfold gotoIn;rw[hf];exact h2,fun K=>by rw[List.cons_append];unfold gotoIn;rw[hf];exact h3 K⟩
  ·have e:∀r,gotoIn l (x :: r)=gotoIn l r:=fun r=>by
    cases x<;>first|exact absurd ⟨_,rfl⟩ hx|simp[gotoIn]
   rw[List.cons_append,e] at h
   obtain⟨k1,h1,h2,h3⟩:=goto_app l hG h
   exact⟨k1,h1,by rw[e];exact h2,fun K=>by rw[List.cons_append,e];exact h3 K⟩
end
end Go.Proofs.YtjeicikflkjacaaGreatDoor.Po
