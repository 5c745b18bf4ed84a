/-
  Texts that belong together, joined: NpV, NpW, HuC6.
-/
import Derived.Test.YtgiojkhmkeocfaaGreatDoorProg
import Derived.WalkKit
import Derived.LaidEql
import Derived.Stop.Asserts
import Derived.RowKitTokens
import Derived.Test.YtgiojkhmkeocfaaGreatDoorNoalBA14
import Derived.Test.YtgiojkhmkeocfaaGreatDoorNoalBA16
import Derived.Test.YtgiojkhmkeocfaaGreatDoorNoalBA11

set_option maxHeartbeats 16000000
set_option maxRecDepth 100000
/- errors.As at two concrete targets, walked over Go's own text: an error that is a fault's pointer, an error that is a number. The model's entries for internal/reflectlite at this program: closed facts, and three small laws on those that read or write memory. -/
namespace Go.Proofs.YtgiojkhmkeocfaaGreatDoor.Es
open Go.RowKit Go.Extern.Stop Go.Stop Go.Extern
theorem mKind (h : Value) (w : World) : (Go.method 486 193 (.agg #[h]) "Kind").run Tryz.prog w = .ok (329, h) w := by kernel_rfl
theorem mElem (h : Value) (w : World) : (Go.method 486 193 (.agg #[h]) "Elem").run Tryz.prog w = .ok (342, .agg #[h]) w := by kernel_rfl
theorem mImplements (h : Value) (w : World) : (Go.method 486 193 (.agg #[h]) "Implements").run Tryz.prog w = .ok (343, .agg #[h]) w := by kernel_rfl
theorem mAssignableTo (h : Value) (w : World) : (Go.method 486 193 (.agg #[h]) "AssignableTo").run Tryz.prog w = .ok (340, .agg #[h]) w := by kernel_rfl
theorem Ef.valueOfP (t:Addr) (w:World):(ReflectliteValue.unpack (.iface 95 (.pointer (some t)))).run Tryz.prog w
  = .ok (.agg #[.pointer (some ⟨7,95,none⟩),.pointer (some ⟨w.heap.size,0,none⟩),.int .u64 150]) (w.alloc (.cells #[.pointer (some t)] 95)):=by kernel_rfl
theorem Ef.typeP (a : Addr) (w : World) : (ReflectliteValue.methodAny (ReflectliteValue.valueError "reflectlite.Value.Type" 0) (fun t _ _ _ => ReflectliteType.toType t) #[.agg #[.pointer (some ⟨7, 95, none⟩), .pointer (some a), .int .u64 150]]).run Tryz.prog w
  = .ok (.iface 193 (.agg #[.pointer (some ⟨7,95,none⟩)])) w:=by kernel_rfl
theorem Ef.kindP (w:World):((ReflectliteType.abiMethod fun t=>Functor.map (fun a:Nat=>Value.int IntKind.u8 (a:Int)) (Rtype.kind t)) #[.pointer (some ⟨7,95,none⟩)]).run Tryz.prog w=.ok (.int .u8 22) w:=by kernel_rfl
theorem Ef.kindE (w:World):((ReflectliteType.abiMethod fun t=>Functor.map (fun a:Nat=>Value.int IntKind.u8 (a:Int)) (Rtype.kind t)) #[.pointer (some ⟨7,86,none⟩)]).run Tryz.prog w=.ok (.int .u8 22) w:=by kernel_rfl
theorem Ef.partsP (a:Addr) (w:World):(ReflectliteValue.parts (.agg #[.pointer (some ⟨7,95,none⟩),.pointer (some a),.int .u64 150])).run Tryz.prog w=.ok (some (95,a,150)) w:=by kernel_rfl
theorem Ef.isNilP (a p:Addr) (W:World) (ha:W.cell? a=some (.pointer (some p))) :
  (ReflectliteValue.method (ReflectliteValue.valueError "reflectlite.Value.IsNil" 0) ReflectliteValue.isNil #[.agg #[.pointer (some ⟨7, 95, none⟩), .pointer (some a), .int .u64 150]]).run Tryz.prog W = .ok (.bool false) W := by
 show Sem.run Tryz.prog (ReflectliteValue.parts (.agg #[.pointer (some ⟨7,95,none⟩),.pointer (some a),.int .u64 150]) >>= _) W=_
 simp only[Sem.run_bind,Ef.partsP,Result.andThen]
 simp[ReflectliteValue.isNil,loadVar,isAgg,underlying,Tryz.underlying95,ha,Result.andThen]
theorem Ef.elemP (w:World):(ReflectliteType.method ReflectliteType.elem #[.agg #[.pointer (some ⟨7,95,none⟩)]]).run Tryz.prog w=.ok (.iface 193 (.agg #[.pointer (some ⟨7,86,none⟩)])) w:=by kernel_rfl
theorem Ef.implementsE (w : World) : (ReflectliteType.relation "Implements" ReflectliteType.implements_ #[.agg #[.pointer (some ⟨7, 86, none⟩)], .iface 193 (.agg #[.pointer (some ⟨7, 36, none⟩)])]).run Tryz.prog w = .ok (.bool true) w := by kernel_rfl
theorem Ef.typeOfE (v:Value) (w:World):(ReflectliteType.typeOf #[.iface 86 v]).run Tryz.prog w=.ok (.iface 193 (.agg #[.pointer (some ⟨7,86,none⟩)])) w:=by kernel_rfl
theorem Ef.assignableE (w : World) : (ReflectliteType.relation "AssignableTo" ReflectliteType.assignableTo #[.agg #[.pointer (some ⟨7, 86, none⟩)], .iface 193 (.agg #[.pointer (some ⟨7, 86, none⟩)])]).run Tryz.prog w = .ok (.bool true) w := by kernel_rfl
theorem Ef.valueOfE (e:Addr) (w:World):(ReflectliteValue.unpack (.iface 86 (.pointer (some e)))).run Tryz.prog w
  = .ok (.agg #[.pointer (some ⟨7,86,none⟩),.pointer (some ⟨w.heap.size,0,none⟩),.int .u64 150]) (w.alloc (.cells #[.pointer (some e)] 86)):=by kernel_rfl
theorem Ef.elemOfP (w:World):(Rtype.elem? 95).run Tryz.prog w=.ok (some 86) w:=by kernel_rfl
theorem Ef.mkE (p:Addr) (w:World):(ReflectliteValue.mk 86 p ReflectliteValue.flagAddr).run Tryz.prog w=.ok (.agg #[.pointer (some ⟨7,86,none⟩),.pointer (some p),.int .u64 406]) w:=by kernel_rfl
theorem Ef.elemVP (a p:Addr) (W:World) (ha:W.cell? a=some (.pointer (some p))) :
  (ReflectliteValue.method (ReflectliteValue.valueError "reflectlite.Value.Elem" 0) ReflectliteValue.elem #[.agg #[.pointer (some ⟨7, 95, none⟩), .pointer (some a), .int .u64 150]]).run Tryz.prog W
   = .ok (.agg #[.pointer (some ⟨7,86,none⟩),.pointer (some p),.int .u64 406]) W:=by
 show Sem.run Tryz.prog (ReflectliteValue.parts (.agg #[.pointer (some ⟨7,95,none⟩),.pointer (some a),.int .u64 150]) >>= _) W=_
 simp only[Sem.run_bind,Ef.partsP,Result.andThen]
 simp[ReflectliteValue.elem,loadVar,isAgg,underlying,Tryz.underlying95,ha,Result.andThen,Ef.elemOfP,Ef.mkE]
theorem Ef.partsEa (a:Addr) (w:World):(ReflectliteValue.parts (.agg #[.pointer (some ⟨7,86,none⟩),.pointer (some a),.int .u64 406])).run Tryz.prog w=.ok (some (86,a,406)) w:=by kernel_rfl
theorem Ef.partsE (a:Addr) (w:World):(ReflectliteValue.parts (.agg #[.pointer (some ⟨7,86,none⟩),.pointer (some a),.int .u64 150])).run Tryz.prog w=.ok (some (86,a,150)) w:=by kernel_rfl
theorem Ef.directE (w:World):(Rtype.directlyAssignable 86 86).run Tryz.prog w=.ok true w:=by kernel_rfl
theorem Ef.setE (ta b:Addr) (e:Addr) (old:Value) (W:World) (hb:W.cell? b=some (.pointer (some e))) (ht:W.cell? ta=some old) (hf:W.frozen? ta=false) :
  (ReflectliteValue.set #[.agg #[.pointer (some ⟨7,86,none⟩),.pointer (some ta),.int .u64 406],.agg #[.pointer (some ⟨7,86,none⟩),.pointer (some b),.int .u64 150]]).run Tryz.prog W
   = .ok (.tuple #[]) (W.setCell ta (.pointer (some e))):=by
 show Sem.run Tryz.prog (ReflectliteValue.parts (.agg #[.pointer (some ⟨7,86,none⟩),.pointer (some ta),.int .u64 406]) >>= fun p=>ReflectliteValue.parts (.agg #[.pointer (some ⟨7,86,none⟩),.pointer (some b),.int .u64 150]) >>= fun q=>_) W=_
 simp only[Sem.run_bind,Ef.partsEa,Ef.partsE,Result.andThen]
 simp[ReflectliteValue.flagAddr,loadVar,isAgg,underlying,Tryz.underlying86,hb,Result.andThen,Ef.directE,storeVar,Value.cells,storeCells,Addr.add]
 rw[run_store Tryz.prog W ta _ _ (by rfl)]
 simp[ht,hf]
theorem Ef.as_hit (e:Addr) (t:Addr) (old:Value) (w:World) (hg:w.cell? ⟨0,0,none⟩=some (.iface 193 (.agg #[.pointer (some ⟨7,36,none⟩)]))) (ht0:w.cell? t=some old) (hf0:w.frozen? t=false) :
  Calls Tryz.prog 45 #[.iface 86 (.pointer (some e)),.iface 95 (.pointer (some t))] w fun ev w'=>ev=.returned (.bool true)∧w'=((((w.alloc (.cells #[.pointer (some t)] 95)).alloc (.cells #[.pointer (some ⟨7,95,none⟩),.pointer (some ⟨w.heap.size,0,none⟩),.int .u64 150] 146)).alloc (.cells #[.pointer (some ⟨7,95,none⟩),.pointer (some ⟨w.heap.size,0,none⟩),.int .u64 150] 146)).alloc (.cells #[.pointer (some e)] 86)).setCell t (.pointer (some e)):=by
 have h6:=@run_callFunc_extern Tryz.prog 89 _ (fun args=>ReflectliteValue.unpack (args.getD 0 (.tuple #[]))) Tryz.func89 (by kernel_rfl) (by kernel_rfl) (by kernel_rfl) (by kernel_rfl)
 have h7 := @run_callFunc_extern Tryz.prog 90 _ (ReflectliteValue.methodAny (ReflectliteValue.valueError "reflectlite.Value.Type" 0) (fun t _ _ _ => ReflectliteType.toType t)) Tryz.func90 (by kernel_rfl) (by kernel_rfl) (by kernel_rfl) (by kernel_rfl)
 have h8 := @run_callFunc_extern Tryz.prog 91 _ (ReflectliteValue.method (ReflectliteValue.valueError "reflectlite.Value.IsNil" 0) ReflectliteValue.isNil) Tryz.func91 (by kernel_rfl) (by kernel_rfl) (by kernel_rfl) (by kernel_rfl)
 have h27:=@run_callFunc_extern Tryz.prog 329 _ (ReflectliteType.abiMethod fun t=>do pure (.int .u8 (← Rtype.kind t))) Tryz.func329 (by kernel_rfl) (by kernel_rfl) (by kernel_rfl) (by kernel_rfl)
 have h37:=@run_callFunc_extern Tryz.prog 342 _ (ReflectliteType.method ReflectliteType.elem) Tryz.func342 (by kernel_rfl) (by kernel_rfl) (by kernel_rfl) (by kernel_rfl)
 have h38 := @run_callFunc_extern Tryz.prog 343 _ (ReflectliteType.relation "Implements" ReflectliteType.implements_) Tryz.func343 (by kernel_rfl) (by kernel_rfl) (by kernel_rfl) (by kernel_rfl)
 have h10:=@run_callFunc_extern Tryz.prog 143 _ ReflectliteType.typeOf Tryz.func143 (by kernel_rfl) (by kernel_rfl) (by kernel_rfl) (by kernel_rfl)
 have h35 := @run_callFunc_extern Tryz.prog 340 _ (ReflectliteType.relation "AssignableTo" ReflectliteType.assignableTo) Tryz.func340 (by kernel_rfl) (by kernel_rfl) (by kernel_rfl) (by kernel_rfl)
 have h11 := @run_callFunc_extern Tryz.prog 144 _ (ReflectliteValue.method (ReflectliteValue.valueError "reflectlite.Value.Elem" 0) ReflectliteValue.elem) Tryz.func144 (by kernel_rfl) (by kernel_rfl) (by kernel_rfl) (by kernel_rfl)
 have h12:=@run_callFunc_extern Tryz.prog 145 _ ReflectliteValue.set Tryz.func145 (by kernel_rfl) (by kernel_rfl) (by kernel_rfl) (by kernel_rfl)
 have tO:=Ef.typeOfE
 have mA:=mAssignableTo
 have a25:=Ef.assignableE
 have v25:=Ef.valueOfE
 have f6:=Ef.valueOfP
 have f7:=Ef.typeP
 have mK:=mKind
 have mE:=mElem
 have mI:=mImplements
 have k27:=Ef.kindP
 have k25:=Ef.kindE
 have e27:=Ef.elemP
 have i25:=Ef.implementsE
 have n8:=Ef.isNilP ⟨w.heap.size,0,none⟩ t ((w.alloc (.cells #[.pointer (some t)] 95)).alloc (.cells #[.pointer (some ⟨7,95,none⟩),.pointer (some ⟨w.heap.size,0,none⟩),.int .u64 150] 146)) (by simp)
 have hlt:0<w.heap.size:=by
  rcases Nat.lt_or_ge 0 w.heap.size with h | h
  ·exact h
  ·simp[World.cell?,Array.getElem?_eq_none h] at hg
 have hg2:((w.alloc (.cells #[.pointer (some t)] 95)).alloc (.cells #[.pointer (some ⟨7,95,none⟩),.pointer (some ⟨w.heap.size,0,none⟩),.int .u64 150] 146)).cell? ⟨0,0,none⟩=some (.iface 193 (.agg #[.pointer (some ⟨7,36,none⟩)])):=by
  rw[World.cell?_alloc_lt _ _ ⟨0,0,none⟩ (by simp<;>omega),World.cell?_alloc_lt _ _ ⟨0,0,none⟩ hlt];exact hg
 have htl:t.block<w.heap.size:=by
  rcases Nat.lt_or_ge t.block w.heap.size with h | h
  ·exact h
  ·simp[World.cell?,Array.getElem?_eq_none h] at ht0
 have el:=Ef.elemVP ⟨w.heap.size,0,none⟩ t (((w.alloc (.cells #[.pointer (some t)] 95)).alloc (.cells #[.pointer (some ⟨7,95,none⟩),.pointer (some ⟨w.heap.size,0,none⟩),.int .u64 150] 146)).alloc (.cells #[.pointer (some ⟨7,95,none⟩),.pointer (some ⟨w.heap.size,0,none⟩),.int .u64 150] 146)) (by rw[World.cell?_alloc_lt _ _ ⟨w.heap.size,0,none⟩ (by simp;omega)];simp)
 have st:=Ef.setE t ⟨w.heap.size+1+1+1,0,none⟩ e old ((((w.alloc (.cells #[.pointer (some t)] 95)).alloc (.cells #[.pointer (some ⟨7,95,none⟩),.pointer (some ⟨w.heap.size,0,none⟩),.int .u64 150] 146)).alloc (.cells #[.pointer (some ⟨7,95,none⟩),.pointer (some ⟨w.heap.size,0,none⟩),.int .u64 150] 146)).alloc (.cells #[.pointer (some e)] 86))
  (by rw[World.cell?_alloc_at _ _ _ _ (by simp)];rfl)
  (by rw[World.cell?_alloc_lt _ _ t (by simp;omega),World.cell?_alloc_lt _ _ t (by simp;omega),World.cell?_alloc_lt _ _ t (by simp;omega),World.cell?_alloc_lt _ _ t htl];exact ht0)
  (by rw[World.frozen?_alloc_old _ _ t (by simp;omega),World.frozen?_alloc_old _ _ t (by simp;omega),World.frozen?_alloc_old _ _ t (by simp;omega),World.frozen?_alloc_old _ _ t (Nat.ne_of_lt htl)];exact hf0)
 go_enter Tryz.func45,Tryz.ntmps45
 go_wp2
 refine wp_loop_rounds 1 ?_
 rw[rounds_succ]
 go_wp2
 go_ret
 exact⟨rfl,rfl⟩
theorem En.valueOfP (t:Addr) (w:World):(ReflectliteValue.unpack (.iface 96 (.pointer (some t)))).run Tryz.prog w
  = .ok (.agg #[.pointer (some ⟨7,96,none⟩),.pointer (some ⟨w.heap.size,0,none⟩),.int .u64 150]) (w.alloc (.cells #[.pointer (some t)] 96)):=by kernel_rfl
theorem En.typeP (a : Addr) (w : World) : (ReflectliteValue.methodAny (ReflectliteValue.valueError "reflectlite.Value.Type" 0) (fun t _ _ _ => ReflectliteType.toType t) #[.agg #[.pointer (some ⟨7, 96, none⟩), .pointer (some a), .int .u64 150]]).run Tryz.prog w
  = .ok (.iface 193 (.agg #[.pointer (some ⟨7,96,none⟩)])) w:=by kernel_rfl
theorem En.kindP (w:World):((ReflectliteType.abiMethod fun t=>Functor.map (fun a:Nat=>Value.int IntKind.u8 (a:Int)) (Rtype.kind t)) #[.pointer (some ⟨7,96,none⟩)]).run Tryz.prog w=.ok (.int .u8 22) w:=by kernel_rfl
theorem En.kindE (w:World):((ReflectliteType.abiMethod fun t=>Functor.map (fun a:Nat=>Value.int IntKind.u8 (a:Int)) (Rtype.kind t)) #[.pointer (some ⟨7,26,none⟩)]).run Tryz.prog w=.ok (.int .u8 2) w:=by kernel_rfl
theorem En.partsP (a:Addr) (w:World):(ReflectliteValue.parts (.agg #[.pointer (some ⟨7,96,none⟩),.pointer (some a),.int .u64 150])).run Tryz.prog w=.ok (some (96,a,150)) w:=by kernel_rfl
theorem En.isNilP (a p:Addr) (W:World) (ha:W.cell? a=some (.pointer (some p))) :
  (ReflectliteValue.method (ReflectliteValue.valueError "reflectlite.Value.IsNil" 0) ReflectliteValue.isNil #[.agg #[.pointer (some ⟨7, 96, none⟩), .pointer (some a), .int .u64 150]]).run Tryz.prog W = .ok (.bool false) W := by
 show Sem.run Tryz.prog (ReflectliteValue.parts (.agg #[.pointer (some ⟨7,96,none⟩),.pointer (some a),.int .u64 150]) >>= _) W=_
 simp only[Sem.run_bind,En.partsP,Result.andThen]
 simp[ReflectliteValue.isNil,loadVar,isAgg,underlying,Tryz.underlying96,ha,Result.andThen]
theorem En.elemP (w:World):(ReflectliteType.method ReflectliteType.elem #[.agg #[.pointer (some ⟨7,96,none⟩)]]).run Tryz.prog w=.ok (.iface 193 (.agg #[.pointer (some ⟨7,26,none⟩)])) w:=by kernel_rfl
theorem En.implementsE (w : World) : (ReflectliteType.relation "Implements" ReflectliteType.implements_ #[.agg #[.pointer (some ⟨7, 26, none⟩)], .iface 193 (.agg #[.pointer (some ⟨7, 36, none⟩)])]).run Tryz.prog w = .ok (.bool true) w := by kernel_rfl
theorem En.typeOfE (v:Value) (w:World):(ReflectliteType.typeOf #[.iface 26 v]).run Tryz.prog w=.ok (.iface 193 (.agg #[.pointer (some ⟨7,26,none⟩)])) w:=by kernel_rfl
theorem En.assignableE (w : World) : (ReflectliteType.relation "AssignableTo" ReflectliteType.assignableTo #[.agg #[.pointer (some ⟨7, 26, none⟩)], .iface 193 (.agg #[.pointer (some ⟨7, 26, none⟩)])]).run Tryz.prog w = .ok (.bool true) w := by kernel_rfl
theorem En.valueOfE (z:Int) (w:World):(ReflectliteValue.unpack (.iface 26 (.int .i64 z))).run Tryz.prog w
  = .ok (.agg #[.pointer (some ⟨7,26,none⟩),.pointer (some ⟨w.heap.size,0,none⟩),.int .u64 130]) (w.alloc (.cells #[.int .i64 z] 26)):=by kernel_rfl
theorem En.elemOfP (w:World):(Rtype.elem? 96).run Tryz.prog w=.ok (some 26) w:=by kernel_rfl
theorem En.mkE (p:Addr) (w:World):(ReflectliteValue.mk 26 p ReflectliteValue.flagAddr).run Tryz.prog w=.ok (.agg #[.pointer (some ⟨7,26,none⟩),.pointer (some p),.int .u64 386]) w:=by kernel_rfl
theorem En.elemVP (a p:Addr) (W:World) (ha:W.cell? a=some (.pointer (some p))) :
  (ReflectliteValue.method (ReflectliteValue.valueError "reflectlite.Value.Elem" 0) ReflectliteValue.elem #[.agg #[.pointer (some ⟨7, 96, none⟩), .pointer (some a), .int .u64 150]]).run Tryz.prog W
   = .ok (.agg #[.pointer (some ⟨7,26,none⟩),.pointer (some p),.int .u64 386]) W:=by
 show Sem.run Tryz.prog (ReflectliteValue.parts (.agg #[.pointer (some ⟨7,96,none⟩),.pointer (some a),.int .u64 150]) >>= _) W=_
 simp only[Sem.run_bind,En.partsP,Result.andThen]
 simp[ReflectliteValue.elem,loadVar,isAgg,underlying,Tryz.underlying96,ha,Result.andThen,En.elemOfP,En.mkE]
theorem En.partsEa (a:Addr) (w:World):(ReflectliteValue.parts (.agg #[.pointer (some ⟨7,26,none⟩),.pointer (some a),.int .u64 386])).run Tryz.prog w=.ok (some (26,a,386)) w:=by kernel_rfl
theorem En.partsE (a:Addr) (w:World):(ReflectliteValue.parts (.agg #[.pointer (some ⟨7,26,none⟩),.pointer (some a),.int .u64 130])).run Tryz.prog w=.ok (some (26,a,130)) w:=by kernel_rfl
theorem En.directE (w:World):(Rtype.directlyAssignable 26 26).run Tryz.prog w=.ok true w:=by kernel_rfl
theorem En.setE (ta b:Addr) (z:Int) (old:Value) (W:World) (hb:W.cell? b=some (.int .i64 z)) (ht:W.cell? ta=some old) (hf:W.frozen? ta=false) :
  (ReflectliteValue.set #[.agg #[.pointer (some ⟨7,26,none⟩),.pointer (some ta),.int .u64 386],.agg #[.pointer (some ⟨7,26,none⟩),.pointer (some b),.int .u64 130]]).run Tryz.prog W
   = .ok (.tuple #[]) (W.setCell ta (.int .i64 z)):=by
 show Sem.run Tryz.prog (ReflectliteValue.parts (.agg #[.pointer (some ⟨7,26,none⟩),.pointer (some ta),.int .u64 386]) >>= fun p=>ReflectliteValue.parts (.agg #[.pointer (some ⟨7,26,none⟩),.pointer (some b),.int .u64 130]) >>= fun q=>_) W=_
 simp only[Sem.run_bind,En.partsEa,En.partsE,Result.andThen]
 simp[ReflectliteValue.flagAddr,loadVar,isAgg,underlying,Tryz.underlying26,hb,Result.andThen,En.directE,storeVar,Value.cells,storeCells,Addr.add]
 rw[run_store Tryz.prog W ta _ _ (by rfl)]
 simp[ht,hf]
theorem En.as_hit (z:Int) (t:Addr) (old:Value) (w:World) (hg:w.cell? ⟨0,0,none⟩=some (.iface 193 (.agg #[.pointer (some ⟨7,36,none⟩)]))) (ht0:w.cell? t=some old) (hf0:w.frozen? t=false) :
  Calls Tryz.prog 45 #[.iface 26 (.int .i64 z),.iface 96 (.pointer (some t))] w fun ev w'=>ev=.returned (.bool true)∧w'=((((w.alloc (.cells #[.pointer (some t)] 96)).alloc (.cells #[.pointer (some ⟨7,96,none⟩),.pointer (some ⟨w.heap.size,0,none⟩),.int .u64 150] 146)).alloc (.cells #[.pointer (some ⟨7,96,none⟩),.pointer (some ⟨w.heap.size,0,none⟩),.int .u64 150] 146)).alloc (.cells #[.int .i64 z] 26)).setCell t (.int .i64 z):=by
 have h6:=@run_callFunc_extern Tryz.prog 89 _ (fun args=>ReflectliteValue.unpack (args.getD 0 (.tuple #[]))) Tryz.func89 (by kernel_rfl) (by kernel_rfl) (by kernel_rfl) (by kernel_rfl)
 have h7 := @run_callFunc_extern Tryz.prog 90 _ (ReflectliteValue.methodAny (ReflectliteValue.valueError "reflectlite.Value.Type" 0) (fun t _ _ _ => ReflectliteType.toType t)) Tryz.func90 (by kernel_rfl) (by kernel_rfl) (by kernel_rfl) (by kernel_rfl)
 have h8 := @run_callFunc_extern Tryz.prog 91 _ (ReflectliteValue.method (ReflectliteValue.valueError "reflectlite.Value.IsNil" 0) ReflectliteValue.isNil) Tryz.func91 (by kernel_rfl) (by kernel_rfl) (by kernel_rfl) (by kernel_rfl)
 have h27:=@run_callFunc_extern Tryz.prog 329 _ (ReflectliteType.abiMethod fun t=>do pure (.int .u8 (← Rtype.kind t))) Tryz.func329 (by kernel_rfl) (by kernel_rfl) (by kernel_rfl) (by kernel_rfl)
 have h37:=@run_callFunc_extern Tryz.prog 342 _ (ReflectliteType.method ReflectliteType.elem) Tryz.func342 (by kernel_rfl) (by kernel_rfl) (by kernel_rfl) (by kernel_rfl)
 have h38 := @run_callFunc_extern Tryz.prog 343 _ (ReflectliteType.relation "Implements" ReflectliteType.implements_) Tryz.func343 (by kernel_rfl) (by kernel_rfl) (by kernel_rfl) (by kernel_rfl)
 have h10:=@run_callFunc_extern Tryz.prog 143 _ ReflectliteType.typeOf Tryz.func143 (by kernel_rfl) (by kernel_rfl) (by kernel_rfl) (by kernel_rfl)
 have h35 := @run_callFunc_extern Tryz.prog 340 _ (ReflectliteType.relation "AssignableTo" ReflectliteType.assignableTo) Tryz.func340 (by kernel_rfl) (by kernel_rfl) (by kernel_rfl) (by kernel_rfl)
 have h11 := @run_callFunc_extern Tryz.prog 144 _ (ReflectliteValue.method (ReflectliteValue.valueError "reflectlite.Value.Elem" 0) ReflectliteValue.elem) Tryz.func144 (by kernel_rfl) (by kernel_rfl) (by kernel_rfl) (by kernel_rfl)
 have h12:=@run_callFunc_extern Tryz.prog 145 _ ReflectliteValue.set Tryz.func145 (by kernel_rfl) (by kernel_rfl) (by kernel_rfl) (by kernel_rfl)
 have tO:=En.typeOfE
 have mA:=mAssignableTo
 have a25:=En.assignableE
 have v25:=En.valueOfE
 have f6:=En.valueOfP
 have f7:=En.typeP
 have mK:=mKind
 have mE:=mElem
 have mI:=mImplements
 have k27:=En.kindP
 have k25:=En.kindE
 have e27:=En.elemP
 have i25:=En.implementsE
 have n8:=En.isNilP ⟨w.heap.size,0,none⟩ t ((w.alloc (.cells #[.pointer (some t)] 96)).alloc (.cells #[.pointer (some ⟨7,96,none⟩),.pointer (some ⟨w.heap.size,0,none⟩),.int .u64 150] 146)) (by simp)
 have hlt:0<w.heap.size:=by
  rcases Nat.lt_or_ge 0 w.heap.size with h | h
  ·exact h
  ·simp[World.cell?,Array.getElem?_eq_none h] at hg
 have hg2:((w.alloc (.cells #[.pointer (some t)] 96)).alloc (.cells #[.pointer (some ⟨7,96,none⟩),.pointer (some ⟨w.heap.size,0,none⟩),.int .u64 150] 146)).cell? ⟨0,0,none⟩=some (.iface 193 (.agg #[.pointer (some ⟨7,36,none⟩)])):=by
  rw[World.cell?_alloc_lt _ _ ⟨0,0,none⟩ (by simp<;>omega),World.cell?_alloc_lt _ _ ⟨0,0,none⟩ hlt];exact hg
 have htl:t.block<w.heap.size:=by
  rcases Nat.lt_or_ge t.block w.heap.size with h | h
  ·exact h
  ·simp[World.cell?,Array.getElem?_eq_none h] at ht0
 have el:=En.elemVP ⟨w.heap.size,0,none⟩ t (((w.alloc (.cells #[.pointer (some t)] 96)).alloc (.cells #[.pointer (some ⟨7,96,none⟩),.pointer (some ⟨w.heap.size,0,none⟩),.int .u64 150] 146)).alloc (.cells #[.pointer (some ⟨7,96,none⟩),.pointer (some ⟨w.heap.size,0,none⟩),.int .u64 150] 146)) (by rw[World.cell?_alloc_lt _ _ ⟨w.heap.size,0,none⟩ (by simp;omega)];simp)
 have st:=En.setE t ⟨w.heap.size+1+1+1,0,none⟩ z old ((((w.alloc (.cells #[.pointer (some t)] 96)).alloc (.cells #[.pointer (some ⟨7,96,none⟩),.pointer (some ⟨w.heap.size,0,none⟩),.int .u64 150] 146)).alloc (.cells #[.pointer (some ⟨7,96,none⟩),.pointer (some ⟨w.heap.size,0,none⟩),.int .u64 150] 146)).alloc (.cells #[.int .i64 z] 26))
  (by rw[World.cell?_alloc_at _ _ _ _ (by simp)];rfl)
  (by rw[World.cell?_alloc_lt _ _ t (by simp;omega),World.cell?_alloc_lt _ _ t (by simp;omega),World.cell?_alloc_lt _ _ t (by simp;omega),World.cell?_alloc_lt _ _ t htl];exact ht0)
  (by rw[World.frozen?_alloc_old _ _ t (by simp;omega),World.frozen?_alloc_old _ _ t (by simp;omega),World.frozen?_alloc_old _ _ t (by simp;omega),World.frozen?_alloc_old _ _ t (Nat.ne_of_lt htl)];exact hf0)
 go_enter Tryz.func45,Tryz.ntmps45
 go_wp2
 refine wp_loop_rounds 1 ?_
 rw[rounds_succ]
 go_wp2
 go_ret
 exact⟨rfl,rfl⟩
end Go.Proofs.YtgiojkhmkeocfaaGreatDoor.Es

/- The law's Seen, walked: which fault an error is. -/
namespace Go.Proofs.YtgiojkhmkeocfaaGreatDoor
open Go.RowKit
def ErrT (w:World):Prop:=w.cell? ⟨0,0,none⟩=some (.iface 193 (.agg #[.pointer (some ⟨7,36,none⟩)]))
theorem ErrT.lt {w:World} (h:ErrT w):0<w.heap.size:=World.block_lt_of_cell? w _ h
theorem ErrT.low {w u:World} {N:Nat} (h:ErrT w) (hb:Below N w u) (hN:w.heap.size≤N):ErrT u:=(World.cell?_of_block (w:=w) (hb.block _ (Nat.lt_of_lt_of_le h.lt hN))).trans h
theorem grown_alc {w u:World} {r:Option Nat} (h:w.grownBy u r) (o:Obj):w.grownBy (u.alloc o) r:=grown_two h (World.grownBy_alloc u o r)
theorem as_fault (g b:Nat) (old:Value) (w:World) (hE:ErrT w) (hb:w.heap[b]?=some (.cells #[old] 86)) :
  Calls Tryz.prog 45 #[.iface 86 (.pointer (some ⟨g,0,none⟩)),.iface 95 (.pointer (some ⟨b,0,none⟩))] w fun e w'=>e=.returned (.bool true)∧w'.heap[b]?=some (.cells #[.pointer (some ⟨g,0,none⟩)] 86)∧w.grownBy w' (some b):=by
 refine (Es.Ef.as_hit ⟨g,0,none⟩ ⟨b,0,none⟩ old w hE (by rw[Lib.cell_of_heap hb];rfl) (Lib.frozen_of_heap hb 0)).mono ?_
 rintro e w' ⟨rfl,rfl⟩
 have hl:=(Array.getElem?_eq_some_iff.1 hb).1
 refine⟨rfl,?_,grown_two (grown_alc (grown_alc (grown_alc (World.grownBy_alloc w _ _) _) _) _) (grown_set _ b 0 _)⟩
 refine (heap_setCell_same _ b 0 #[old] _ _ ?_).trans rfl
 rw[Lib.alloc_old _ _ _ (by simp;omega),Lib.alloc_old _ _ _ (by simp;omega),Lib.alloc_old _ _ _ (by simp;omega),Lib.alloc_old _ _ _ hl]
 exact hb
theorem as_errno (z:Int) (b:Nat) (old:Value) (w:World) (hE:ErrT w) (hb:w.heap[b]?=some (.cells #[old] 26)) :
  Calls Tryz.prog 45 #[.iface 26 (.int .i64 z),.iface 96 (.pointer (some ⟨b,0,none⟩))] w fun e w'=>e=.returned (.bool true)∧w'.heap[b]?=some (.cells #[.int .i64 z] 26)∧w.grownBy w' (some b):=by
 refine (Es.En.as_hit z ⟨b,0,none⟩ old w hE (by rw[Lib.cell_of_heap hb];rfl) (Lib.frozen_of_heap hb 0)).mono ?_
 rintro e w' ⟨rfl,rfl⟩
 have hl:=(Array.getElem?_eq_some_iff.1 hb).1
 refine⟨rfl,?_,grown_two (grown_alc (grown_alc (grown_alc (World.grownBy_alloc w _ _) _) _) _) (grown_set _ b 0 _)⟩
 refine (heap_setCell_same _ b 0 #[old] _ _ ?_).trans rfl
 rw[Lib.alloc_old _ _ _ (by simp;omega),Lib.alloc_old _ _ _ (by simp;omega),Lib.alloc_old _ _ _ (by simp;omega),Lib.alloc_old _ _ _ hl]
 exact hb
def fvO (a z:Int):Obj:=.cells #[.int .i64 a,.int .i64 z] 42
theorem seen_flt (g:Nat) (a z:Int) (w:World) (hE:ErrT w) (hg:w.heap[g]?=some (fltO a z)):Calls Tryz.prog 17 #[.iface 86 (.pointer (some ⟨g,0,none⟩))] w fun e w'=>e=.returned (.agg #[.int .i64 a,.int .i64 z])∧Below w.heap.size w w':=by
 have hgl:=(Array.getElem?_eq_some_iff.1 hg).1
 have z1:(w.alloc (fvO 0 0)).heap.size=w.heap.size+1:=by simp
 have z2:((w.alloc (fvO 0 0)).alloc (.cells #[.pointer none] 86)).heap.size=w.heap.size+1+1:=by simp
 have a0:=heap_alloc_new w (fvO 0 0)
 have a1:=heap_alloc_new (w.alloc (fvO 0 0)) (.cells #[.pointer none] 86)
 have a2:=heap_alloc_new ((w.alloc (fvO 0 0)).alloc (.cells #[.pointer none] 86)) (.cells #[.int .i64 0] 26)
 rw[z1] at a1
 rw[z2] at a2
 have hb1:Below w.heap.size w (w.alloc (fvO 0 0)):=(Below.refl _ w).alloc (Nat.le_refl _) _
 have hb2:=hb1.alloc hb1.size (.cells #[.pointer none] 86)
 have hb3:=hb2.alloc hb2.size (.cells #[.int .i64 0] 26)
 have e1:=(Lib.alloc_old _ (.cells #[.int .i64 0] 26) _ (by rw[z2];omega)).trans a1
 have e0:=(Lib.alloc_old _ (.cells #[.int .i64 0] 26) _ (by rw[z2];omega)).trans ((Lib.alloc_old _ (.cells #[.pointer none] 86) _ (by rw[z1];omega)).trans a0)
 have hg3:=(hb3.block g hgl).trans hg
 have hE3:=hE.low hb3 (Nat.le_refl _)
 have hW:((w.alloc (.cells #[.int .i64 0,.int .i64 0] 42)).alloc (.cells #[.pointer none] 86)).alloc (.cells #[.int .i64 0] 26)=((w.alloc (fvO 0 0)).alloc (.cells #[.pointer none] 86)).alloc (.cells #[.int .i64 0] 26):=rfl
 have hEl:0<w.heap.size:=hE.lt
 clear hb1 hb2 a0 a1 z1 z2 hE hg
 go_enter Tryz.func17,Tryz.ntmps17
 go_wp2_with fail
 clear hW
 generalize ((w.alloc (fvO 0 0)).alloc (.cells #[.pointer none] 86)).alloc (.cells #[.int .i64 0] 26)=W at *
 refine (as_fault g (w.heap.size+1) (.pointer none) W hE3 e1).mono ?_
 rintro e W1 ⟨rfl,e1',hgr⟩
 have kp:∀ (k:Nat) (x:Obj),k≠w.heap.size+1→W.heap[k]?=some x→W1.heap[k]?=some x:=fun k x hk hx=>(hgr.block k (Array.getElem?_eq_some_iff.1 hx).1 (fun e=>hk (Option.some.inj e))).trans hx
 have i0:=kp _ _ (by omega) e0
 have i2:=kp _ _ (by omega) a2
 have ig:=kp _ _ (by omega) hg3
 have hb4:=hb3.grown hgr hb3.size (fun k e=>by cases e;omega)
 have hE4:ErrT W1:=(World.cell?_of_block (w:=W) (hgr.block _ hE3.lt (fun e=>by have h1:0=w.heap.size+1:=Option.some.inj e;omega))).trans hE3
 have c1:W1.cell? ⟨w.heap.size+1,0,none⟩=some (.pointer (some ⟨g,0,none⟩)):=by rw[Lib.cell_of_heap e1'];rfl
 have cg1:W1.cell? ⟨g,1,none⟩=some (.iface 26 (.int .i64 z)):=by unfold fltO at ig;rw[Lib.cell_of_heap ig];rfl
 clear kp e0 e1 a2 hg3 hb3 hE3 hgr
 go_wp2_with fail
 clear c1 cg1
 refine (as_errno z (w.heap.size+1+1) (.int .i64 0) W1 hE4 i2).mono ?_
 rintro e W2 ⟨rfl,i2',hgr⟩
 have kp:∀ (k:Nat) (x:Obj),k≠w.heap.size+1+1→W1.heap[k]?=some x→W2.heap[k]?=some x:=fun k x hk hx=>(hgr.block k (Array.getElem?_eq_some_iff.1 hx).1 (fun e=>hk (Option.some.inj e))).trans hx
 have j0:=kp _ _ (by omega) i0
 have j1:=kp _ _ (by omega) e1'
 have jg:=kp _ _ (by omega) ig
 have hb5:=hb4.grown hgr hb4.size (fun k e=>by cases e;omega)
 have s0:=heap_setCell_same W2 w.heap.size 0 _ _ (.int .i64 a) j0
 have s1:=heap_setCell_same _ w.heap.size 1 _ _ (.int .i64 z) s0
 have hb6:Below w.heap.size w ((W2.setCell ⟨w.heap.size,0,none⟩ (.int .i64 a)).setCell ⟨w.heap.size,1,none⟩ (.int .i64 z)):=(hb5.setCell (Nat.le_refl _) _).setCell (Nat.le_refl _) _
 have c1:W2.cell? ⟨w.heap.size+1,0,none⟩=some (.pointer (some ⟨g,0,none⟩)):=by rw[Lib.cell_of_heap j1];rfl
 have c2:W2.cell? ⟨w.heap.size+1+1,0,none⟩=some (.int .i64 z):=by rw[Lib.cell_of_heap i2'];rfl
 have cg0:W2.cell? ⟨g,0,none⟩=some (.int .i64 a):=by unfold fltO at jg;rw[Lib.cell_of_heap jg];rfl
 have t0:W2.cell? ⟨w.heap.size,0,none⟩=some (.int .i64 0):=by unfold fvO at j0;rw[Lib.cell_of_heap j0];rfl
 have t1:W2.cell? ⟨w.heap.size,1,none⟩=some (.int .i64 0):=by unfold fvO at j0;rw[Lib.cell_of_heap j0];rfl
 have t2:=Lib.frozen_of_heap j0 0
 have t3:=Lib.frozen_of_heap j0 1
 clear kp i0 e1' ig hb4 hE4 i2 i2' hgr j0 j1 jg hb5 s0
 go_wp2_with fail
 go_region
 have s2:((W2.setCell ⟨w.heap.size,0,none⟩ (.int .i64 a)).setCell ⟨w.heap.size,1,none⟩ (.int .i64 z)).drew.heap[w.heap.size]?=some (.cells #[.int .i64 a,.int .i64 z] 42):=s1
 have hb7:=hb6.drew
 clear s1 hb6 c1 c2 cg0 t0 t1 t2 t3
 generalize ((W2.setCell ⟨w.heap.size,0,none⟩ (.int .i64 a)).setCell ⟨w.heap.size,1,none⟩ (.int .i64 z)).drew=W3 at *
 go_wp2
 exact bodyPost_ret (v:=.agg #[.int .i64 a,.int .i64 z]) (results_cell_row rfl _ _ w.heap.size 42 #[.int .i64 a,.int .i64 z] (0,0) _ rfl s2 Tryz.underlying42 rfl (by kernel_rfl)) rfl ⟨rfl,hb7⟩
end Go.Proofs.YtgiojkhmkeocfaaGreatDoor

/- The code's Changes of layer 11, walked. -/
namespace Go.Proofs.YtgiojkhmkeocfaaGreatDoor
open Go.RowKit
theorem al_add {a b n:Int} {r:List Ch} (h:Afar a b r):Afar (a+n) (b+n) r:=by
 cases r with
 | nil=>trivial
 | cons c r=>simp only[Afar] at h ⊢;omega
theorem al_move {u v X Y:Int} {r:List Ch} (h:Afar u v r) (hx:X-u=Y-v):Afar X Y r:=by
 cases r with
 | nil=>trivial
 | cons c r=>simp only[Afar] at h ⊢;omega
theorem chk_lines {h:Hk} (hc:chkH h=0):allB h.ls=true∧((pkL 43 h.ls).length:Int)=h.AN∧((pkL 45 h.ls).length:Int)=h.BN:=by
 have hr:rngB h=true:=by
  cases hq:rngB h with
  | true=>rfl
  | false=>rw[chk_rng hq] at hc;cases hc
 have hf:fldB h.ls=true:=by
  cases hq:fldB h.ls with
  | true=>rfl
  | false=>rw[chk_fld hr hq] at hc;cases hc
 refine⟨?_,?_,?_⟩
 ·have:=fld_code h.ls
  rw[hf] at this
  simp only[Bool.true_eq,Bool.and_eq_true] at this
  exact this.1.1
 ·by_cases hq:h.AN≠(oldL h).length
  ·rw[chk_cnt hr hf (.inl hq)] at hc;cases hc
  ·simp only[ne_eq,Decidable.not_not] at hq;exact hq.symm
 ·by_cases hq:h.BN≠(newL h).length
  ·rw[chk_cnt hr hf (.inr hq)] at hc;cases hc
  ·simp only[ne_eq,Decidable.not_not] at hq;exact hq.symm
theorem pk_step {l:List Mk} {j:Nat} (hj:j<l.length) {sg:Int} {tx:List UInt8} (hm:l[j]=⟨sg,tx⟩) (no:Int):((pkL no (l.drop j)).length:Int)=(if sg≠no∧okS sg=true then 1 else 0)+((pkL no (l.drop (j+1))).length:Int):=by
 rw[List.drop_eq_getElem_cons hj,hm]
 simp only[pkL]
 split<;>simp<;>omega
theorem all_at {l:List Mk} (h:allB l=true) {j:Nat} (hj:j<l.length) {sg:Int} {tx:List UInt8} (hm:l[j]=⟨sg,tx⟩):sg=32∨sg=45∨sg=43:=by
 have:=List.all_eq_true.1 h l[j] (List.getElem_mem hj)
 rw[hm] at this
 simp only[okS,Bool.or_eq_true,decide_eq_true_eq] at this
 omega
theorem hChanges_f (p:List (Hk × Value)) (v:Value) (w:World) (hv:HHp w v p) (hok:HOk p) (ht:tot (p.map (·.1))≤1099511627776) (z:Int) (HZ:Hid (ordH (p.map (·.1))=z)) (R:List Ch) (HR:Hid (chR (p.map (·.1))=R)):Calls Tryz.prog 19 #[v] w fun e w'=>∃ v',e=.returned (.tuple #[v',.int .i64 z])∧HCh w' v' R∧Below w.heap.size w w':=by
 obtain⟨vo,vc,rfl⟩:=Holds.form hv.row
 have hpl:p.length≤1099511627776:=hok.1
 have HOK:Hid (HOk p):=hok
 obtain⟨l,hl⟩:∃ l,p.map (·.1)=l:=⟨_,rfl⟩
 have hll:p.length=l.length:=by rw[← hl];simp
 have HL:Hid (p.map (·.1)=l):=hl
 have HLL:Hid (p.length=l.length):=hll
 have hZ2:Hid (ordH (p.map (·.1))=z):=HZ
 rw[hl] at HR HZ ht
 clear hl hll hok
 go_enter Tryz.func19,Tryz.ntmps19
 go_wp2_with fail
 refine (hOrder_f p _ w hv HOK.out z hZ2).mono ?_
 rintro e W ⟨rfl,hBW⟩
 by_cases hz:z=0
 ·subst hz
  have HR2:Hid ((chHs [] l).reverse=R):=(by
   show _=_
   rw[← HR.out]
   unfold chR
   rw[if_pos HZ.out])
  have he0:errs l=0:=(by
   have h:=HZ.out
   unfold ordH at h
   by_cases hq:errs l=0
   ·exact hq
   ·rw[if_pos hq] at h
    exact h)
  have HCK:Hid (∀ x∈l,chkH x=0):=errs_ok he0
  have HOB:Hid (ordB 0 0 l=true∧Afar 0 0 []):=(by
   have h:=HZ.out
   rw[ord_ok he0] at h
   refine⟨?_,trivial⟩
   by_cases hq:ordB 0 0 l=true
   ·exact hq
   ·rw[if_neg hq] at h
    cases h)
  have hS0:Sc W (.slice none 0 0) [] (W.alloc (.cells #[.slice none 0 0] 25)):=⟨(Below.refl _ W).alloc (Nat.le_refl _) _,_root_.Go.heap_alloc_new W _,hnil_row _ _ _ _⟩
  clear HR HZ hZ2 he0
  go_wp2
  generalize W.alloc (Obj.cells #[.slice none 0 0] 25)=W1 at *
  go_loopw [21] (fun iv wr=>∃ (k:Nat) (r:List Ch) (u v:Int) (ov:Value),k≤p.length∧iv=.int .i64 (k:Int)∧r.length+tot (l.drop k)≤1099511627776∧Hid (Hhd r)∧Sc W ov r wr∧Hid (ordB u v (l.drop k)=true∧Afar u v r)∧Hid ((chHs r (l.drop k)).reverse=R)) (fun iv _=>p.length-(intOf iv).toNat)
  case atStart=>exact⟨0,[],0,0,_,Nat.zero_le _,by go_num,by simpa using ht,trivial,hS0,HOB,HR2⟩
  case round =>
   obtain⟨k,r,u,v,ov,hk,rfl,hrt,HHD,hS,HUV,HI⟩:=hrel
   clear HR2 HOB hS0
   have hB:=hBW.trans (hS.low.mono hBW.size)
   by_cases hlt:k<p.length
   ·obtain⟨b,off,rfl,hb,_⟩:=hv.at (by omega)
    obtain⟨x,y,hxy⟩:∃ x y,p[k]=(x,y):=⟨_,_,rfl⟩
    obtain⟨⟨c0,c1,c2,c3,c4⟩,hm⟩:=hv.take hB k hlt hxy
    have hbd:=(HOK.out.2 _ (List.getElem_mem hlt)).1
    rw[hxy] at hbd
    have hlk:l[k]'(by have:=HLL.out;omega)=x:=by
     have hz:l[k]?=some x:=by rw[← HL.out];simp[hlt,hxy]
     exact (List.getElem?_eq_some_iff.1 hz).2
    have hck:chkH x=0:=HCK.out x (by rw[← hlk];exact List.getElem_mem _)
    have hdr:l.drop k=x::l.drop (k+1):=by rw[List.drop_eq_getElem_cons (l:=l) (i:=k) (by have:=HLL.out;omega),hlk]
    have hn:=chk_num hck
    have HCL:Hid (allB x.ls=true∧((pkL 43 x.ls).length:Int)=x.AN∧((pkL 45 x.ls).length:Int)=x.BN):=chk_lines hck
    obtain⟨X,hX⟩:∃ X,atA x=X:=⟨_,rfl⟩
    obtain⟨Y,hY⟩:∃ Y,atB x=Y:=⟨_,rfl⟩
    have ha:=at_num hck
    rw[hX,hY] at ha
    have HX:Hid ((if 0<x.AN then x.A-1 else x.A)=X):=hX
    have HY:Hid ((if 0<x.BN then x.B-1 else x.B)=Y):=hY
    have HUV2:Hid (ordB (X+x.AN) (Y+x.BN) (l.drop (k+1))=true∧Afar X Y r):=(by
     obtain⟨h1,h2⟩:=HUV.out
     rw[hdr] at h1
     simp only[ordB,Bool.and_eq_true,decide_eq_true_eq] at h1
     rw[hX,hY] at h1
     exact⟨h1.2,al_move h2 h1.1.2⟩)
    have HI2:Hid ((chHs (chLs X Y r x.ls) (l.drop (k+1))).reverse=R):=(by
     show _=_
     rw[← HI.out,hdr]
     simp only[chHs]
     rw[hX,hY])
    have hrt2:r.length+x.ls.length+tot (l.drop (k+1))≤1099511627776:=by
     rw[hdr] at hrt
     simp only[tot] at hrt
     omega
    obtain⟨yo,yc,rfl⟩:=hm.form
    have i1:0≤(k:Int):=by omega
    have i2:(k:Int)<(p.length:Int):=by omega
    obtain⟨T,hT⟩:∃ T,tot (l.drop (k+1))=T:=⟨_,rfl⟩
    rw[hT] at hrt2
    have HT:Hid (tot (l.drop (k+1))=T):=hT
    dsimp only at hbd
    have hBx:Below wr.heap.size wr (wr.alloc (hkO x (.slice yo x.ls.length yc))):=(Below.refl _ wr).alloc (Nat.le_refl _) _
    have hx1:=Hx.new wr x (.slice yo x.ls.length yc)
    have hS1:=hS.alloc (hkO x (.slice yo x.ls.length yc))
    have hW:wr.alloc (Obj.cells #[Value.int IntKind.i64 x.A,Value.int IntKind.i64 x.AN,Value.int IntKind.i64 x.B,Value.int IntKind.i64 x.BN,.slice yo x.ls.length yc] 59)=wr.alloc (hkO x (.slice yo x.ls.length yc)):=rfl
    clear HI hlk hck hX hY hdr hrt hT HUV hS hm
    generalize wr.alloc (hkO x (.slice yo x.ls.length yc))=w1 at *
    go_upto_region 9 with fail
    clear hW c0 c1 c2 c3 c4
    generalize hBX:wr.heap.size=BX at *
    have hxx:∀ u:World,Low w1 u→Hx u BX x (.slice yo x.ls.length yc):=fun u hu=>hx1.low hu
    have hlow:Low w1 (w1.drewN 1):=Below.dN (Below.refl _ w1) 1
    refine wp_region_noPanic ?_
    refine wp_region_held_drew (S:=fun u=>Low w1 u) (by kernel_rfl) hlow (fun hHeld=>?_)
    refine go_take 0 25 _ (.pointer (some ⟨BX,0,none⟩)) rfl (by kernel_rfl) (by kernel_rfl) (by kernel_rfl) (by kernel_rfl) (fun _ _ _ h=>h) (Or.inl ⟨by kernel_rfl,fun u hu=>by kernel_rfl⟩) hHeld ?_
    simp only[Act.put,List.setIfInBounds_toArray,List.set_cons_zero,List.set_cons_succ]
    refine go_take 1 26 _ (.int .i64 x.A) rfl (by kernel_rfl) (by kernel_rfl) (by kernel_rfl) (by kernel_rfl) (fun _ _ _ h=>h) (Or.inl ⟨by kernel_rfl,fun u hu=>load_int (hxx u hu).cells.1 (.tmp 25) (by kernel_rfl) (by kernel_rfl)⟩) hHeld ?_
    simp only[Act.put,List.setIfInBounds_toArray,List.set_cons_zero,List.set_cons_succ]
    refine go_take 2 27 _ (.pointer (some ⟨BX,1,none⟩)) rfl (by kernel_rfl) (by kernel_rfl) (by kernel_rfl) (by kernel_rfl) (fun _ _ _ h=>h) (Or.inl ⟨by kernel_rfl,fun u hu=>by kernel_rfl⟩) hHeld ?_
    simp only[Act.put,List.setIfInBounds_toArray,List.set_cons_zero,List.set_cons_succ]
    refine go_take 3 28 _ (.int .i64 x.AN) rfl (by kernel_rfl) (by kernel_rfl) (by kernel_rfl) (by kernel_rfl) (fun _ _ _ h=>h) (Or.inl ⟨by kernel_rfl,fun u hu=>load_int (hxx u hu).cells.2.1 (.tmp 27) (by kernel_rfl) (by kernel_rfl)⟩) hHeld ?_
    simp only[Act.put,List.setIfInBounds_toArray,List.set_cons_zero,List.set_cons_succ]
    refine go_take 5 30 _ (.pointer (some ⟨BX,2,none⟩)) rfl (by kernel_rfl) (by kernel_rfl) (by kernel_rfl) (by kernel_rfl) (fun _ _ _ h=>h) (Or.inl ⟨by kernel_rfl,fun u hu=>by kernel_rfl⟩) hHeld ?_
    simp only[Act.put,List.setIfInBounds_toArray,List.set_cons_zero,List.set_cons_succ]
    refine go_take 6 31 _ (.int .i64 x.B) rfl (by kernel_rfl) (by kernel_rfl) (by kernel_rfl) (by kernel_rfl) (fun _ _ _ h=>h) (Or.inl ⟨by kernel_rfl,fun u hu=>load_int (hxx u hu).cells.2.2.1 (.tmp 30) (by kernel_rfl) (by kernel_rfl)⟩) hHeld ?_
    simp only[Act.put,List.setIfInBounds_toArray,List.set_cons_zero,List.set_cons_succ]
    refine go_take 7 32 _ (.pointer (some ⟨BX,3,none⟩)) rfl (by kernel_rfl) (by kernel_rfl) (by kernel_rfl) (by kernel_rfl) (fun _ _ _ h=>h) (Or.inl ⟨by kernel_rfl,fun u hu=>by kernel_rfl⟩) hHeld ?_
    simp only[Act.put,List.setIfInBounds_toArray,List.set_cons_zero,List.set_cons_succ]
    refine go_take 8 33 _ (.int .i64 x.BN) rfl (by kernel_rfl) (by kernel_rfl) (by kernel_rfl) (by kernel_rfl) (fun _ _ _ h=>h) (Or.inl ⟨by kernel_rfl,fun u hu=>load_int (hxx u hu).cells.2.2.2.1 (.tmp 32) (by kernel_rfl) (by kernel_rfl)⟩) hHeld ?_
    simp only[Act.put,List.setIfInBounds_toArray,List.set_cons_zero,List.set_cons_succ]
    refine go_callH 4 29 _ rfl (by kernel_rfl) (by kernel_rfl) (by kernel_rfl) 49 #[.tmp 26,.tmp 28] #[3,3] (by kernel_rfl) #[.int .i64 x.A,.int .i64 x.AN] (by kernel_rfl) (enters_of Tryz.func49 (by kernel_rfl) rfl) (.int .i64 X) ((hplaceOf_f x.A x.AN _ (by omega) (by omega) X HX).mono (fun _ _ h=>⟨h.1,by rw[h.2];exact hHeld⟩)) ?_
    intro w1 hHeld
    simp only[Act.put,List.setIfInBounds_toArray,List.set_cons_zero,List.set_cons_succ]
    refine go_callH 9 34 _ rfl (by kernel_rfl) (by kernel_rfl) (by kernel_rfl) 49 #[.tmp 31,.tmp 33] #[3,3] (by kernel_rfl) #[.int .i64 x.B,.int .i64 x.BN] (by kernel_rfl) (enters_of Tryz.func49 (by kernel_rfl) rfl) (.int .i64 Y) ((hplaceOf_f x.B x.BN _ (by omega) (by omega) Y HY).mono (fun _ _ h=>⟨h.1,by rw[h.2];exact hHeld⟩)) ?_
    intro w2 hHeld
    simp only[Act.put,List.setIfInBounds_toArray,List.set_cons_zero,List.set_cons_succ]
    refine go_take 10 9 _ (.int .i64 X) rfl (by kernel_rfl) (by kernel_rfl) (by kernel_rfl) (by kernel_rfl) (fun _ _ _ h=>h) (Or.inl ⟨by kernel_rfl,fun u hu=>by kernel_rfl⟩) hHeld ?_
    simp only[Act.put,List.setIfInBounds_toArray,List.set_cons_zero,List.set_cons_succ]
    refine go_take 11 10 _ (.int .i64 Y) rfl (by kernel_rfl) (by kernel_rfl) (by kernel_rfl) (by kernel_rfl) (fun _ _ _ h=>h) (Or.inl ⟨by kernel_rfl,fun u hu=>by kernel_rfl⟩) hHeld ?_
    simp only[Act.put,List.setIfInBounds_toArray,List.set_cons_zero,List.set_cons_succ]
    refine wpAnyH_done (by kernel_rfl) ?_ _
    refine NoPanic.normal ?_
    obtain⟨d0,d1,d2,d3,d4⟩:=(hxx w2 hHeld).cells
    have hS2:=hS1.keep hHeld
    generalize w2=w4 at *
    clear hS1 HX HY hB
    go_wp2
    clear d0 d1 d2 d3 d4
    go_loopw [9,10,38] (fun av bv jv wr=>∃ (j:Nat) (a b:Int) (r:List Ch) (ov:Value),j≤x.ls.length∧av=.int .i64 a∧bv=.int .i64 b∧jv=.int .i64 (j:Int)∧(-1≤a∧a≤2147483647+(j:Int))∧(-1≤b∧b≤2147483647+(j:Int))∧r.length+(x.ls.length-j)+T≤1099511627776∧Hid (Hhd r)∧Sc W ov r wr∧Hid (Afar a b r)∧Hid (a+((pkL 43 (x.ls.drop j)).length:Int)=X+x.AN∧b+((pkL 45 (x.ls.drop j)).length:Int)=Y+x.BN)∧Hid ((chHs (chLs a b r (x.ls.drop j)) (l.drop (k+1))).reverse=R)) (fun _ _ jv _=>x.ls.length-(intOf jv).toNat)
    case atStart=>exact⟨0,X,Y,r,ov,Nat.zero_le _,by go_num,by go_num,by go_num,by omega,by omega,by omega,HHD,hS2,HUV2.out.2,⟨by rw[List.drop_zero,HCL.out.2.1],by rw[List.drop_zero,HCL.out.2.2]⟩,HI2⟩
    case round =>
     obtain⟨j,a,bb,r,ov,hj,rfl,rfl,rfl,hab,hbb,hrt,HHD,hS,HAL,HPK,HI⟩:=hrel
     clear HI2 hrt2 hS2
     have hB:=hBW.trans (hS.low.mono hBW.size)
     have hmr:=(hv.take hB k hlt hxy).2
     by_cases hjl:j<x.ls.length
     ·obtain⟨mb,mo,rfl,_,hmc⟩:=HMk.at hmr (by omega)
      obtain⟨m,hmj⟩:∃ m,x.ls[j]=m:=⟨_,rfl⟩
      obtain⟨c0,c1⟩:=hmc j hjl
      rw[hmj] at c0 c1
      obtain⟨sg,tx⟩:=m
      dsimp only at c0 c1
      have hsg:=all_at HCL.out.1 hjl hmj
      have HP1:=pk_step hjl hmj 43
      have HP2:=pk_step hjl hmj 45
      have HPK2:Hid (a+((if sg≠43∧okS sg=true then 1 else 0)+((pkL 43 (x.ls.drop (j+1))).length:Int))=X+x.AN∧bb+((if sg≠45∧okS sg=true then 1 else 0)+((pkL 45 (x.ls.drop (j+1))).length:Int))=Y+x.BN):=(by
       have h:=HPK.out
       rw[HP1,HP2] at h
       exact h)
      have HI3:Hid ((chHs (if sg=32 then chLs (a+1) (bb+1) r (x.ls.drop (j+1)) else if sg=45 then chLs (a+1) bb (bmA (opn a bb r)) (x.ls.drop (j+1)) else chLs a (bb+1) (bmB (opn a bb r)) (x.ls.drop (j+1))) (l.drop (k+1))).reverse=R):=(by
       show _=_
       rw[← HI.out,List.drop_eq_getElem_cons hjl,hmj]
       rfl)
      have j1:0≤(j:Int):=by omega
      have j2:(j:Int)<(x.ls.length:Int):=by omega
      obtain⟨m0,m1⟩:=(Mx.new wr ⟨sg,tx⟩).cells
      have hSm:=hS.alloc (mkO ⟨sg,tx⟩)
      have hW:wr.alloc (Obj.cells #[Value.int IntKind.u8 sg,Value.string ⟨tx.toArray⟩] 103)=wr.alloc (mkO ⟨sg,tx⟩):=rfl
      dsimp only at m0 m1
      clear HI hmj hmc hmr HP1 HP2 HPK hS
      generalize wr.alloc (mkO ⟨sg,tx⟩)=wm at *
      rcases hsg with rfl | rfl | rfl
      ·have HI4:Hid ((chHs (chLs (a+1) (bb+1) r (x.ls.drop (j+1))) (l.drop (k+1))).reverse=R):=(by
        have h:=HI3.out
        rw[if_pos rfl] at h
        exact h)
       have HPK3:Hid (a+1+((pkL 43 (x.ls.drop (j+1))).length:Int)=X+x.AN∧bb+1+((pkL 45 (x.ls.drop (j+1))).length:Int)=Y+x.BN):=(by
        have h:=HPK2.out
        rw[if_pos (by decide),if_pos (by decide)] at h
        refine⟨?_,?_⟩<;>omega)
       clear HI3 HPK2
       go_wp2
       exact⟨⟨j+1,_,_,r,ov,by omega,by go_num,by go_num,by go_num,by omega,by omega,by omega,HHD,hSm,al_add HAL.out,HPK3,HI4⟩,by simp[intOf];omega⟩
      ·obtain⟨c,t,hop,hcA,hcB⟩:=opn_head a bb r
       have HOP:Hid (opn a bb r=c::t):=hop
       have hd:(-1≤c.A∧0≤c.AN)∧-1≤c.B∧0≤c.BN:=(by
        have h1:=HHD.out
        unfold opn at hop
        by_cases hq:endsAt a bb r=true
        ·rw[if_pos hq] at hop
         rw[hop] at h1
         simp only[Hhd] at h1
         omega
        ·rw[if_neg hq] at hop
         cases hop
         dsimp only
         omega)
       have hlen:t.length≤r.length:=(by
        unfold opn at hop
        by_cases hq:endsAt a bb r=true
        ·rw[if_pos hq] at hop
         rw[hop]
         simp
        ·rw[if_neg hq] at hop
         cases hop
         exact Nat.le_refl _)
       obtain⟨cA,cAN,cB,cBN⟩:=c
       dsimp only at hd hcA hcB
       have HI4:Hid ((chHs (chLs (a+1) (bb) (⟨cA,cAN+1,cB,cBN⟩::t) (x.ls.drop (j+1))) (l.drop (k+1))).reverse=R):=(by
        have h:=HI3.out
        rw[if_neg (by decide),if_pos rfl,hop] at h
        exact h)
       have HPK3:Hid (a+1+((pkL 43 (x.ls.drop (j+1))).length:Int)=X+x.AN∧bb+((pkL 45 (x.ls.drop (j+1))).length:Int)=Y+x.BN):=(by
        have h:=HPK2.out
        rw[if_pos (by decide),if_neg (by decide)] at h
        refine⟨?_,?_⟩<;>omega)
       have HCC:Hid (cA+cAN=a∧cB+cBN=bb):=⟨hcA,hcB⟩
       clear HI3 HPK2 hop hcA hcB
       go_wp2_with fail
       refine (hAt_f a bb W wm ov r t ⟨cA,cAN,cB,cBN⟩ hSm (by omega) (by omega) (by omega) HHD HAL HOP).mono ?_
       rintro e wz ⟨g,oc,rfl,hS3⟩
       obtain⟨q0,q1,q2,q3⟩:=bch_at ⟨cA,cAN,cB,cBN⟩ t
       have hown:=hS3.own
       rw[List.length_cons] at hown
       have d1:=(hown.cellAt (t.length * 4+1) (by omega)).trans q1
       have f1:=hown.frozenAt (t.length * 4+1)
       have hst:=hown.stored (t.length * 4+1) (.int .i64 (cAN+1))
       rw[bch_setA] at hst
       have hS4:=hS3.put (g:=g) rfl hst.1 hst.2
       dsimp only at d1
       have hcc:=HCC.out
       clear q0 q1 q2 q3 hst hown HOP hS3 HCC
       go_wp2
       exact⟨⟨j+1,_,_,⟨cA,cAN+1,cB,cBN⟩::t,_,by omega,by go_num,by go_num,by go_num,by omega,by omega,by simp only[List.length_cons];omega,by simp only[Hhd];show _∧_;omega,hS4,by show _=_;dsimp only;omega,HPK3,HI4⟩,by simp[intOf];omega⟩
      ·obtain⟨c,t,hop,hcA,hcB⟩:=opn_head a bb r
       have HOP:Hid (opn a bb r=c::t):=hop
       have hd:(-1≤c.A∧0≤c.AN)∧-1≤c.B∧0≤c.BN:=(by
        have h1:=HHD.out
        unfold opn at hop
        by_cases hq:endsAt a bb r=true
        ·rw[if_pos hq] at hop
         rw[hop] at h1
         simp only[Hhd] at h1
         omega
        ·rw[if_neg hq] at hop
         cases hop
         dsimp only
         omega)
       have hlen:t.length≤r.length:=(by
        unfold opn at hop
        by_cases hq:endsAt a bb r=true
        ·rw[if_pos hq] at hop
         rw[hop]
         simp
        ·rw[if_neg hq] at hop
         cases hop
         exact Nat.le_refl _)
       obtain⟨cA,cAN,cB,cBN⟩:=c
       dsimp only at hd hcA hcB
       have HI4:Hid ((chHs (chLs (a) (bb+1) (⟨cA,cAN,cB,cBN+1⟩::t) (x.ls.drop (j+1))) (l.drop (k+1))).reverse=R):=(by
        have h:=HI3.out
        rw[if_neg (by decide),if_neg (by decide),hop] at h
        exact h)
       have HPK3:Hid (a+((pkL 43 (x.ls.drop (j+1))).length:Int)=X+x.AN∧bb+1+((pkL 45 (x.ls.drop (j+1))).length:Int)=Y+x.BN):=(by
        have h:=HPK2.out
        rw[if_neg (by decide),if_pos (by decide)] at h
        refine⟨?_,?_⟩<;>omega)
       have HCC:Hid (cA+cAN=a∧cB+cBN=bb):=⟨hcA,hcB⟩
       clear HI3 HPK2 hop hcA hcB
       go_wp2_with fail
       refine (hAt_f a bb W wm ov r t ⟨cA,cAN,cB,cBN⟩ hSm (by omega) (by omega) (by omega) HHD HAL HOP).mono ?_
       rintro e wz ⟨g,oc,rfl,hS3⟩
       obtain⟨q0,q1,q2,q3⟩:=bch_at ⟨cA,cAN,cB,cBN⟩ t
       have hown:=hS3.own
       rw[List.length_cons] at hown
       have d1:=(hown.cellAt (t.length * 4+3) (by omega)).trans q3
       have f1:=hown.frozenAt (t.length * 4+3)
       have hst:=hown.stored (t.length * 4+3) (.int .i64 (cBN+1))
       rw[bch_setB] at hst
       have hS4:=hS3.put (g:=g) rfl hst.1 hst.2
       dsimp only at d1
       have hcc:=HCC.out
       clear q0 q1 q2 q3 hst hown HOP hS3 HCC
       go_wp2
       exact⟨⟨j+1,_,_,⟨cA,cAN,cB,cBN+1⟩::t,_,by omega,by go_num,by go_num,by go_num,by omega,by omega,by simp only[List.length_cons];omega,by simp only[Hhd];show _∧_;omega,hS4,by show _=_;dsimp only;omega,HPK3,HI4⟩,by simp[intOf];omega⟩
     ·have HI3:Hid ((chHs r (l.drop (k+1))).reverse=R):=(by
       have h:=HI.out
       rw[List.drop_of_length_le (by omega)] at h
       exact h)
      have HUV3:Hid (ordB (X+x.AN) (Y+x.BN) (l.drop (k+1))=true∧Afar (X+x.AN) (Y+x.BN) r):=(by
       have h:=HPK.out
       rw[List.drop_of_length_le (by omega)] at h
       simp[pkL] at h
       refine⟨HUV2.out.1,?_⟩
       rw[← h.1,← h.2]
       exact HAL.out)
      have hend:decide ((j:Int)<(x.ls.length:Int))=false:=decide_eq_false (by omega)
      clear HI HPK HAL
      go_wp2
      exact⟨⟨k+1,r,_,_,ov,by omega,by go_num,by have:=HT.out;omega,HHD,hS,HUV3,HI3⟩,by simp[intOf];omega⟩
   ·have HI3:Hid (r.reverse=R):=(by
     have h:=HI.out
     rw[List.drop_of_length_le (by have:=HLL.out;omega)] at h
     exact h)
    have hend:decide ((k:Int)<(p.length:Int))=false:=decide_eq_false (by omega)
    obtain⟨oo,oc,rfl⟩:=hS.form
    have hbx:=hS.cell
    clear HI
    go_wp2
    go_ret2
    refine⟨_,rfl,?_,hB⟩
    have h:=holds_of hS.own
    rw[← HI3.out]
    unfold HCh
    rw[List.length_reverse]
    exact h
 ·have hz1:(z != 0)=true:=by simpa using hz
  obtain rfl:R=[]:=by
   rw[← HR.out]
   unfold chR
   rw[if_neg (by rw[HZ.out];exact hz)]
  clear HR HZ hZ2 hz
  go_wp2
  go_ret2
  exact⟨_,rfl,Holds.nil _,hBW⟩
end Go.Proofs.YtgiojkhmkeocfaaGreatDoor
