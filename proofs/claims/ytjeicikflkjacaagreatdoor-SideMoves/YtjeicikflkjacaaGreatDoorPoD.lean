/- Goroutine 0 beside leavers: equality, maps, builtins. -/
import Derived.Test.YtjeicikflkjacaaGreatDoorPoC
set_option linter.unusedSimpArgs false
set_option linter.unusedVariables false
namespace Go.Proofs.YtjeicikflkjacaaGreatDoor.Po
open Go
section
variable {Z:Zs} {P:Program} {α δ:Type} {Q:α→Prop} {R:δ→Prop}
theorem ye_forL {β σ:Type}{f:β→σ→Sem (ForInStep σ)}(h:∀a s,Ye Z P (f a s)):∀(l:List β) (s:σ),Ye Z P (forIn l s f)
 | [],s=>by rw[List.forIn_nil];exact .pure trivial
 | a :: l,s=>by
  rw[List.forIn_cons]
  refine Ye.bind (h a s) fun x=>?_
  cases x with
  | done b=>exact .pure trivial
  | yield b=>exact ye_forL h l b
theorem ye_forA {β σ:Type}{f:β→σ→Sem (ForInStep σ)}(h:∀a s,Ye Z P (f a s))(x:Array β)(s:σ):Ye Z P (forIn x s f):=by
 rw[←Array.forIn_toList]
 exact ye_forL h _ _
theorem ye_forR {σ:Type}{f:Nat→σ→Sem (ForInStep σ)}(h:∀a s,Ye Z P (f a s))(r:Std.Legacy.Range)(s:σ):Ye Z P (forIn r s f):=by
 rw[Std.Legacy.Range.forIn_eq_forIn_range']
 exact ye_forL h _ _
theorem ye_equalIn:∀(d:Nat) (t:TypeId) (x y:Value),Ye Z P (Op.equalIn d t x y)
 | 0,_,_,_=>.unsupported _
 | d+1,t,x,y=>by
  unfold Op.equalIn
  repeat' (first|(with_reducible first|exact Yes.pure trivial|exact Yes.stuck _|exact Yes.uNoEntry _|exact Yes.uLimit _|exact Yes.uPointer _|exact Yes.uAddress|exact Yes.uExtern _|exact Yes.goPanic _|exact Yes.runtimePanic _|exact Yes.panicString _|exact Yes.boundsPanic _ _ _ _|exact Yes.program.mono fun _ _=>trivial|exact Yes.choose _|exact Yes.load _ _|exact Yes.store _ _ _|exact Yes.newCells _ _|exact Yes.newMap _ _|exact Yes.newNumber _ _|exact Yes.frozen _|exact Yes.noRoom|exact ye_typeInfo _|exact ye_underlying _|exact ye_cutType _|exact ye_typeStr _|exact ye_zeroValue _|exact ye_sizeOf _|exact ye_isAgg _|exact ye_loadCells _ _|exact ye_storeCells _ _ _|exact ye_loadVar _ _|exact ye_storeVar _ _ _|exact ye_newRow _ _|exact ye_newVar _ _|exact ye_elemOf _|exact ye_part _ _ _|exact ye_asIntOf _|exact ye_asInt _|exact ye_asBool _|exact ye_asString _|exact ye_asAddr _|exact ye_sureAddr _|exact ye_askRoom _|exact ye_byteOf _|exact ye_partAt _ _ _|exact ye_fieldPlace _ _|exact Yes.behindNumber _|exact Yes.numberAt _|exact ye_sameAddr _ _|exact ye_samePointer _ _|exact ye_alloc _ _ _|exact ye_box _ _|exact ye_loadAt _ _|exact ye_storeAt _ _ _|exact ye_fieldAt _ _ _|exact ye_indexAt _ _ _|exact ye_sliceBound _ _ _|exact ye_sliceBounds _ _ _ _ _ _|exact ye_slice _ _ _ _ _|exact ye_sliceAt _ _ _ _ _|exact ye_index _ _ _|exact ye_makeInterface _ _|exact ye_makeMap _ _|exact ye_makeSlice _ _ _|exact ye_buildSlice _ _ _|exact ye_build _ _|exact ye_typeAssert _ _ _ _|exact ye_extract _ _|exact ye_equalIn d _ _ _|refine ye_forA (fun _ _=>?_) _ _|refine ye_forR (fun _ _=>?_) _ _|refine Ye.bind ?_ fun _=>?_)|split|dsimp only)
theorem ye_equal (t:TypeId)(x y:Value):Ye Z P (Op.equal t x y):=ye_equalIn _ t x y
theorem ye_eqGuardIn:∀(d:Nat) (t:TypeId) (x y:Value),Ye Z P (Op.eqGuardIn d t x y)
 | 0,_,_,_=>.unsupported _
 | d+1,t,x,y=>by
  unfold Op.eqGuardIn
  repeat' (first|(with_reducible first|exact Yes.pure trivial|exact Yes.stuck _|exact Yes.uNoEntry _|exact Yes.uLimit _|exact Yes.uPointer _|exact Yes.uAddress|exact Yes.uExtern _|exact Yes.goPanic _|exact Yes.runtimePanic _|exact Yes.panicString _|exact Yes.boundsPanic _ _ _ _|exact Yes.program.mono fun _ _=>trivial|exact Yes.choose _|exact Yes.load _ _|exact Yes.store _ _ _|exact Yes.newCells _ _|exact Yes.newMap _ _|exact Yes.newNumber _ _|exact Yes.frozen _|exact Yes.noRoom|exact ye_typeInfo _|exact ye_underlying _|exact ye_cutType _|exact ye_typeStr _|exact ye_zeroValue _|exact ye_sizeOf _|exact ye_isAgg _|exact ye_loadCells _ _|exact ye_storeCells _ _ _|exact ye_loadVar _ _|exact ye_storeVar _ _ _|exact ye_newRow _ _|exact ye_newVar _ _|exact ye_elemOf _|exact ye_part _ _ _|exact ye_asIntOf _|exact ye_asInt _|exact ye_asBool _|exact ye_asString _|exact ye_asAddr _|exact ye_sureAddr _|exact ye_askRoom _|exact ye_byteOf _|exact ye_partAt _ _ _|exact ye_fieldPlace _ _|exact Yes.behindNumber _|exact Yes.numberAt _|exact ye_sameAddr _ _|exact ye_samePointer _ _|exact ye_alloc _ _ _|exact ye_box _ _|exact ye_loadAt _ _|exact ye_storeAt _ _ _|exact ye_fieldAt _ _ _|exact ye_indexAt _ _ _|exact ye_sliceBound _ _ _|exact ye_sliceBounds _ _ _ _ _ _|exact ye_slice _ _ _ _ _|exact ye_sliceAt _ _ _ _ _|exact ye_index _ _ _|exact ye_makeInterface _ _|exact ye_makeMap _ _|exact ye_makeSlice _ _ _|exact ye_buildSlice _ _ _|exact ye_build _ _|exact ye_typeAssert _ _ _ _|exact ye_extract _ _|exact ye_equal _ _ _|exact ye_eqGuardIn d _ _ _|refine ye_forA (fun _ _=>?_) _ _|refine ye_forR (fun _ _=>?_) _ _|refine Ye.bind ?_ fun _=>?_)|split|dsimp only)
theorem ye_eqGuard (op:BinOp)(t:TypeId)(x y:Operand)(a b:Value):Ye Z P (Go.eqGuard op t x y a b):=by
 unfold Go.eqGuard
 repeat' (first|(with_reducible first|exact Yes.pure trivial|exact Yes.stuck _|exact Yes.uNoEntry _|exact Yes.uLimit _|exact Yes.uPointer _|exact Yes.uAddress|exact Yes.uExtern _|exact Yes.goPanic _|exact Yes.runtimePanic _|exact Yes.panicString _|exact Yes.boundsPanic _ _ _ _|exact Yes.program.mono fun _ _=>trivial|exact Yes.choose _|exact Yes.load _ _|exact Yes.store _ _ _|exact Yes.newCells _ _|exact Yes.newMap _ _|exact Yes.newNumber _ _|exact Yes.frozen _|exact Yes.noRoom|exact ye_typeInfo _|exact ye_underlying _|exact ye_cutType _|exact ye_typeStr _|exact ye_zeroValue _|exact ye_sizeOf _|exact ye_isAgg _|exact ye_loadCells _ _|exact ye_storeCells _ _ _|exact ye_loadVar _ _|exact ye_storeVar _ _ _|exact ye_newRow _ _|exact ye_newVar _ _|exact ye_elemOf _|exact ye_part _ _ _|exact ye_asIntOf _|exact ye_asInt _|exact ye_asBool _|exact ye_asString _|exact ye_asAddr _|exact ye_sureAddr _|exact ye_askRoom _|exact ye_byteOf _|exact ye_partAt _ _ _|exact ye_fieldPlace _ _|exact Yes.behindNumber _|exact Yes.numberAt _|exact ye_sameAddr _ _|exact ye_samePointer _ _|exact ye_alloc _ _ _|exact ye_box _ _|exact ye_loadAt _ _|exact ye_storeAt _ _ _|exact ye_fieldAt _ _ _|exact ye_indexAt _ _ _|exact ye_sliceBound _ _ _|exact ye_sliceBounds _ _ _ _ _ _|exact ye_slice _ _ _ _ _|exact ye_sliceAt _ _ _ _ _|exact ye_index _ _ _|exact ye_makeInterface _ _|exact ye_makeMap _ _|exact ye_makeSlice _ _ _|exact ye_buildSlice _ _ _|exact ye_build _ _|exact ye_typeAssert _ _ _ _|exact ye_extract _ _|exact ye_equal _ _ _|exact ye_eqGuardIn _ _ _ _|refine Ye.bind ?_ fun _=>?_)|split|dsimp only)
theorem ye_checkKey (e:Bool):∀(d:Nat) (t:TypeId) (x:Value),Ye Z P (Instr.checkKey e d t x)
 | 0,_,_=>.unsupported _
 | d+1,t,x=>by
  unfold Instr.checkKey
  repeat' (first|(with_reducible first|exact Yes.pure trivial|exact Yes.stuck _|exact Yes.uNoEntry _|exact Yes.uLimit _|exact Yes.uPointer _|exact Yes.uAddress|exact Yes.uExtern _|exact Yes.goPanic _|exact Yes.runtimePanic _|exact Yes.panicString _|exact Yes.boundsPanic _ _ _ _|exact Yes.program.mono fun _ _=>trivial|exact Yes.choose _|exact Yes.load _ _|exact Yes.store _ _ _|exact Yes.newCells _ _|exact Yes.newMap _ _|exact Yes.newNumber _ _|exact Yes.frozen _|exact Yes.noRoom|exact ye_typeInfo _|exact ye_underlying _|exact ye_cutType _|exact ye_typeStr _|exact ye_zeroValue _|exact ye_sizeOf _|exact ye_isAgg _|exact ye_loadCells _ _|exact ye_storeCells _ _ _|exact ye_loadVar _ _|exact ye_storeVar _ _ _|exact ye_newRow _ _|exact ye_newVar _ _|exact ye_elemOf _|exact ye_part _ _ _|exact ye_asIntOf _|exact ye_asInt _|exact ye_asBool _|exact ye_asString _|exact ye_asAddr _|exact ye_sureAddr _|exact ye_askRoom _|exact ye_byteOf _|exact ye_partAt _ _ _|exact ye_fieldPlace _ _|exact Yes.behindNumber _|exact Yes.numberAt _|exact ye_sameAddr _ _|exact ye_samePointer _ _|exact ye_alloc _ _ _|exact ye_box _ _|exact ye_loadAt _ _|exact ye_storeAt _ _ _|exact ye_fieldAt _ _ _|exact ye_indexAt _ _ _|exact ye_sliceBound _ _ _|exact ye_sliceBounds _ _ _ _ _ _|exact ye_slice _ _ _ _ _|exact ye_sliceAt _ _ _ _ _|exact ye_index _ _ _|exact ye_makeInterface _ _|exact ye_makeMap _ _|exact ye_makeSlice _ _ _|exact ye_buildSlice _ _ _|exact ye_build _ _|exact ye_typeAssert _ _ _ _|exact ye_extract _ _|exact ye_equal _ _ _|exact ye_eqGuard _ _ _ _ _ _|exact ye_checkKey e d _ _|refine ye_forA (fun _ _=>?_) _ _|refine ye_forR (fun _ _=>?_) _ _|refine Ye.bind ?_ fun _=>?_)|split|dsimp only)
theorem ye_findAsking (t:TypeId)(k:Value):∀(l:List MapEntry) (i:Nat),Ye Z P (Instr.findAsking t k l i)
 | [],_=>.pure trivial
 | e :: l,i=>by
  unfold Instr.findAsking
  refine Ye.bind (ye_equal _ _ _) fun b=>?_
  split
  ·exact .pure trivial
  ·exact ye_findAsking t k l _
theorem ye_findKey (t:TypeId)(k:Value)(l:List MapEntry):Ye Z P (Instr.findKey t k l):=by
 unfold Instr.findKey
 repeat' (first|(with_reducible first|exact Yes.pure trivial|exact Yes.stuck _|exact Yes.uNoEntry _|exact Yes.uLimit _|exact Yes.uPointer _|exact Yes.uAddress|exact Yes.uExtern _|exact Yes.goPanic _|exact Yes.runtimePanic _|exact Yes.panicString _|exact Yes.boundsPanic _ _ _ _|exact Yes.program.mono fun _ _=>trivial|exact Yes.choose _|exact Yes.load _ _|exact Yes.store _ _ _|exact Yes.newCells _ _|exact Yes.newMap _ _|exact Yes.newNumber _ _|exact Yes.frozen _|exact Yes.noRoom|exact ye_typeInfo _|exact ye_underlying _|exact ye_cutType _|exact ye_typeStr _|exact ye_zeroValue _|exact ye_sizeOf _|exact ye_isAgg _|exact ye_loadCells _ _|exact ye_storeCells _ _ _|exact ye_loadVar _ _|exact ye_storeVar _ _ _|exact ye_newRow _ _|exact ye_newVar _ _|exact ye_elemOf _|exact ye_part _ _ _|exact ye_asIntOf _|exact ye_asInt _|exact ye_asBool _|exact ye_asString _|exact ye_asAddr _|exact ye_sureAddr _|exact ye_askRoom _|exact ye_byteOf _|exact ye_partAt _ _ _|exact ye_fieldPlace _ _|exact Yes.behindNumber _|exact Yes.numberAt _|exact ye_sameAddr _ _|exact ye_samePointer _ _|exact ye_alloc _ _ _|exact ye_box _ _|exact ye_loadAt _ _|exact ye_storeAt _ _ _|exact ye_fieldAt _ _ _|exact ye_indexAt _ _ _|exact ye_sliceBound _ _ _|exact ye_sliceBounds _ _ _ _ _ _|exact ye_slice _ _ _ _ _|exact ye_sliceAt _ _ _ _ _|exact ye_index _ _ _|exact ye_makeInterface _ _|exact ye_makeMap _ _|exact ye_makeSlice _ _ _|exact ye_buildSlice _ _ _|exact ye_build _ _|exact ye_typeAssert _ _ _ _|exact ye_extract _ _|exact ye_equal _ _ _|exact ye_eqGuard _ _ _ _ _ _|exact ye_checkKey _ _ _ _|exact ye_findAsking _ _ _ _|refine Ye.bind ?_ fun _=>?_)|split|dsimp only)
theorem ye_keyThatStays (k:Value)(l:Value):Ye Z P (Instr.keyThatStays k l):=by
 unfold Instr.keyThatStays
 repeat' (first|(with_reducible first|exact Yes.pure trivial|exact Yes.stuck _|exact Yes.uNoEntry _|exact Yes.uLimit _|exact Yes.uPointer _|exact Yes.uAddress|exact Yes.uExtern _|exact Yes.goPanic _|exact Yes.runtimePanic _|exact Yes.panicString _|exact Yes.boundsPanic _ _ _ _|exact Yes.program.mono fun _ _=>trivial|exact Yes.choose _|exact Yes.load _ _|exact Yes.store _ _ _|exact Yes.newCells _ _|exact Yes.newMap _ _|exact Yes.newNumber _ _|exact Yes.frozen _|exact Yes.noRoom|exact ye_typeInfo _|exact ye_underlying _|exact ye_cutType _|exact ye_typeStr _|exact ye_zeroValue _|exact ye_sizeOf _|exact ye_isAgg _|exact ye_loadCells _ _|exact ye_storeCells _ _ _|exact ye_loadVar _ _|exact ye_storeVar _ _ _|exact ye_newRow _ _|exact ye_newVar _ _|exact ye_elemOf _|exact ye_part _ _ _|exact ye_asIntOf _|exact ye_asInt _|exact ye_asBool _|exact ye_asString _|exact ye_asAddr _|exact ye_sureAddr _|exact ye_askRoom _|exact ye_byteOf _|exact ye_partAt _ _ _|exact ye_fieldPlace _ _|exact Yes.behindNumber _|exact Yes.numberAt _|exact ye_sameAddr _ _|exact ye_samePointer _ _|exact ye_alloc _ _ _|exact ye_box _ _|exact ye_loadAt _ _|exact ye_storeAt _ _ _|exact ye_fieldAt _ _ _|exact ye_indexAt _ _ _|exact ye_sliceBound _ _ _|exact ye_sliceBounds _ _ _ _ _ _|exact ye_slice _ _ _ _ _|exact ye_sliceAt _ _ _ _ _|exact ye_index _ _ _|exact ye_makeInterface _ _|exact ye_makeMap _ _|exact ye_makeSlice _ _ _|exact ye_buildSlice _ _ _|exact ye_build _ _|exact ye_typeAssert _ _ _ _|exact ye_extract _ _|exact ye_equal _ _ _|exact ye_eqGuard _ _ _ _ _ _|exact ye_checkKey _ _ _ _|exact ye_findAsking _ _ _ _|exact ye_findKey _ _ _|refine Ye.bind ?_ fun _=>?_)|split|dsimp only)
theorem ye_lookup (t:TypeId)(x y:Value)(c:Bool):Ye Z P (Instr.lookup t x y c):=by
 unfold Instr.lookup
 repeat' (first|(with_reducible first|exact Yes.pure trivial|exact Yes.stuck _|exact Yes.uNoEntry _|exact Yes.uLimit _|exact Yes.uPointer _|exact Yes.uAddress|exact Yes.uExtern _|exact Yes.goPanic _|exact Yes.runtimePanic _|exact Yes.panicString _|exact Yes.boundsPanic _ _ _ _|exact Yes.program.mono fun _ _=>trivial|exact Yes.choose _|exact Yes.load _ _|exact Yes.store _ _ _|exact Yes.newCells _ _|exact Yes.newMap _ _|exact Yes.newNumber _ _|exact Yes.frozen _|exact Yes.noRoom|exact ye_typeInfo _|exact ye_underlying _|exact ye_cutType _|exact ye_typeStr _|exact ye_zeroValue _|exact ye_sizeOf _|exact ye_isAgg _|exact ye_loadCells _ _|exact ye_storeCells _ _ _|exact ye_loadVar _ _|exact ye_storeVar _ _ _|exact ye_newRow _ _|exact ye_newVar _ _|exact ye_elemOf _|exact ye_part _ _ _|exact ye_asIntOf _|exact ye_asInt _|exact ye_asBool _|exact ye_asString _|exact ye_asAddr _|exact ye_sureAddr _|exact ye_askRoom _|exact ye_byteOf _|exact ye_partAt _ _ _|exact ye_fieldPlace _ _|exact Yes.behindNumber _|exact Yes.numberAt _|exact ye_sameAddr _ _|exact ye_samePointer _ _|exact ye_alloc _ _ _|exact ye_box _ _|exact ye_loadAt _ _|exact ye_storeAt _ _ _|exact ye_fieldAt _ _ _|exact ye_indexAt _ _ _|exact ye_sliceBound _ _ _|exact ye_sliceBounds _ _ _ _ _ _|exact ye_slice _ _ _ _ _|exact ye_sliceAt _ _ _ _ _|exact ye_index _ _ _|exact ye_makeInterface _ _|exact ye_makeMap _ _|exact ye_makeSlice _ _ _|exact ye_buildSlice _ _ _|exact ye_build _ _|exact ye_typeAssert _ _ _ _|exact ye_extract _ _|exact ye_equal _ _ _|exact ye_eqGuard _ _ _ _ _ _|exact ye_checkKey _ _ _ _|exact ye_findAsking _ _ _ _)|refine Yes.getObj (.stuck _) fun _ _=>?_|with_reducible exact ye_findKey _ _ _|with_reducible refine Ye.bind ?_ fun _=>?_|split|dsimp only)
theorem ye_mapUpdate (t:TypeId)(x y z:Value):Ye Z P (Instr.mapUpdate t x y z):=by
 unfold Instr.mapUpdate
 refine Ye.bind (ye_underlying _) fun d=>?_
 split
 ·split
  ·exact .runtimePanic _
  ·refine Yes.getObj (.stuck _) fun hz o=>?_
   split
   ·refine Ye.bind (ye_checkKey _ _ _ _) fun _=>Ye.bind (ye_findKey _ _ _) fun r=>?_
    split
    ·exact Ye.bind (ye_keyThatStays _ _) fun _=>.setMap hz _ _
    ·exact .setMap hz _ _
   ·exact .stuck _
  ·exact .stuck _
 ·exact .stuck _
end
end Go.Proofs.YtjeicikflkjacaaGreatDoor.Po
