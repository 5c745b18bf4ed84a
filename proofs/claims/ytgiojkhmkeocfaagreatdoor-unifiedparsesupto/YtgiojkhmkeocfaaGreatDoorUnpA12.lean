/-
  Texts that belong together, joined: NpV, NpW, PgU, PrD, CpW, CpX, CpY, CpZ, UnLen, PgV, UpA, UpB, UpC, UpW, UkM.
-/
import Derived.Test.YtgiojkhmkeocfaaGreatDoorProg
import Derived.WalkKit
import Derived.LaidEql
import Derived.Stop.Asserts
import Derived.RowKitTokens
import Derived.Test.YtgiojkhmkeocfaaGreatDoorUnpA6
import Derived.Test.YtgiojkhmkeocfaaGreatDoorUnpA8
import Derived.Test.YtgiojkhmkeocfaaGreatDoorUnpA11
import Derived.Test.YtgiojkhmkeocfaaGreatDoorUnpA7
import Derived.Test.YtgiojkhmkeocfaaGreatDoorUnpA4
import Derived.Test.YtgiojkhmkeocfaaGreatDoorUnpA5
import Derived.Test.YtgiojkhmkeocfaaGreatDoorUnpA2
import Derived.Test.YtgiojkhmkeocfaaGreatDoorUnpA3
import Derived.Test.YtgiojkhmkeocfaaGreatDoorUnpA10

/- errors.As at two concrete targets, walked over Go's own text: an error that is a fault's pointer, an error that is a number. The model's entries for internal/reflectlite at this program: closed facts, and three small laws on those that read or write memory. -/
set_option maxRecDepth 20000
namespace Go.Proofs.YtgiojkhmkeocfaaGreatDoor.Es
open Go.RowKit Go.Extern.Stop Go.Stop Go.Extern

theorem mKind (h : Value) (w : World) : (Go.method 486 193 (.agg #[h]) "Kind").run Tryz.prog w = .ok (329, h) w := by kernel_rfl
theorem mElem (h : Value) (w : World) : (Go.method 486 193 (.agg #[h]) "Elem").run Tryz.prog w = .ok (342, .agg #[h]) w := by kernel_rfl
theorem mImplements (h : Value) (w : World) : (Go.method 486 193 (.agg #[h]) "Implements").run Tryz.prog w = .ok (343, .agg #[h]) w := by kernel_rfl
theorem mAssignableTo (h : Value) (w : World) : (Go.method 486 193 (.agg #[h]) "AssignableTo").run Tryz.prog w = .ok (340, .agg #[h]) w := by kernel_rfl

theorem Ef.valueOfP (t : Addr) (w : World) : (ReflectliteValue.unpack (.iface 95 (.pointer (some t)))).run Tryz.prog w
    = .ok (.agg #[.pointer (some ⟨7, 95, none⟩), .pointer (some ⟨w.heap.size, 0, none⟩), .int .u64 150]) (w.alloc (.cells #[.pointer (some t)] 95)) := by kernel_rfl
theorem Ef.typeP (a : Addr) (w : World) : (ReflectliteValue.methodAny (ReflectliteValue.valueError "reflectlite.Value.Type" 0) (fun t _ _ _ => ReflectliteType.toType t) #[.agg #[.pointer (some ⟨7, 95, none⟩), .pointer (some a), .int .u64 150]]).run Tryz.prog w
    = .ok (.iface 193 (.agg #[.pointer (some ⟨7, 95, none⟩)])) w := by kernel_rfl
theorem Ef.kindP (w : World) : ((ReflectliteType.abiMethod fun t => Functor.map (fun a : Nat => Value.int IntKind.u8 (a : Int)) (Rtype.kind t)) #[.pointer (some ⟨7, 95, none⟩)]).run Tryz.prog w = .ok (.int .u8 22) w := by kernel_rfl
theorem Ef.kindE (w : World) : ((ReflectliteType.abiMethod fun t => Functor.map (fun a : Nat => Value.int IntKind.u8 (a : Int)) (Rtype.kind t)) #[.pointer (some ⟨7, 86, none⟩)]).run Tryz.prog w = .ok (.int .u8 22) w := by kernel_rfl
theorem Ef.partsP (a : Addr) (w : World) : (ReflectliteValue.parts (.agg #[.pointer (some ⟨7, 95, none⟩), .pointer (some a), .int .u64 150])).run Tryz.prog w = .ok (some (95, a, 150)) w := by kernel_rfl
theorem Ef.isNilP (a p : Addr) (W : World) (ha : W.cell? a = some (.pointer (some p))) :
    (ReflectliteValue.method (ReflectliteValue.valueError "reflectlite.Value.IsNil" 0) ReflectliteValue.isNil #[.agg #[.pointer (some ⟨7, 95, none⟩), .pointer (some a), .int .u64 150]]).run Tryz.prog W = .ok (.bool false) W := by
  show Sem.run Tryz.prog (ReflectliteValue.parts (.agg #[.pointer (some ⟨7, 95, none⟩), .pointer (some a), .int .u64 150]) >>= _) W = _
  simp only [Sem.run_bind, Ef.partsP, Result.andThen]
  simp [ReflectliteValue.isNil, loadVar, isAgg, underlying, Tryz.underlying95, ha, Result.andThen]
theorem Ef.elemP (w : World) : (ReflectliteType.method ReflectliteType.elem #[.agg #[.pointer (some ⟨7, 95, none⟩)]]).run Tryz.prog w = .ok (.iface 193 (.agg #[.pointer (some ⟨7, 86, none⟩)])) w := by kernel_rfl
theorem Ef.implementsE (w : World) : (ReflectliteType.relation "Implements" ReflectliteType.implements_ #[.agg #[.pointer (some ⟨7, 86, none⟩)], .iface 193 (.agg #[.pointer (some ⟨7, 36, none⟩)])]).run Tryz.prog w = .ok (.bool true) w := by kernel_rfl
theorem Ef.typeOfE (v : Value) (w : World) : (ReflectliteType.typeOf #[.iface 86 v]).run Tryz.prog w = .ok (.iface 193 (.agg #[.pointer (some ⟨7, 86, none⟩)])) w := by kernel_rfl
theorem Ef.assignableE (w : World) : (ReflectliteType.relation "AssignableTo" ReflectliteType.assignableTo #[.agg #[.pointer (some ⟨7, 86, none⟩)], .iface 193 (.agg #[.pointer (some ⟨7, 86, none⟩)])]).run Tryz.prog w = .ok (.bool true) w := by kernel_rfl
theorem Ef.valueOfE (e : Addr) (w : World) : (ReflectliteValue.unpack (.iface 86 (.pointer (some e)))).run Tryz.prog w
    = .ok (.agg #[.pointer (some ⟨7, 86, none⟩), .pointer (some ⟨w.heap.size, 0, none⟩), .int .u64 150]) (w.alloc (.cells #[.pointer (some e)] 86)) := by kernel_rfl
theorem Ef.elemOfP (w : World) : (Rtype.elem? 95).run Tryz.prog w = .ok (some 86) w := by kernel_rfl
theorem Ef.mkE (p : Addr) (w : World) : (ReflectliteValue.mk 86 p ReflectliteValue.flagAddr).run Tryz.prog w = .ok (.agg #[.pointer (some ⟨7, 86, none⟩), .pointer (some p), .int .u64 406]) w := by kernel_rfl
theorem Ef.elemVP (a p : Addr) (W : World) (ha : W.cell? a = some (.pointer (some p))) :
    (ReflectliteValue.method (ReflectliteValue.valueError "reflectlite.Value.Elem" 0) ReflectliteValue.elem #[.agg #[.pointer (some ⟨7, 95, none⟩), .pointer (some a), .int .u64 150]]).run Tryz.prog W
      = .ok (.agg #[.pointer (some ⟨7, 86, none⟩), .pointer (some p), .int .u64 406]) W := by
  show Sem.run Tryz.prog (ReflectliteValue.parts (.agg #[.pointer (some ⟨7, 95, none⟩), .pointer (some a), .int .u64 150]) >>= _) W = _
  simp only [Sem.run_bind, Ef.partsP, Result.andThen]
  simp [ReflectliteValue.elem, loadVar, isAgg, underlying, Tryz.underlying95, ha, Result.andThen, Ef.elemOfP, Ef.mkE]
theorem Ef.partsEa (a : Addr) (w : World) : (ReflectliteValue.parts (.agg #[.pointer (some ⟨7, 86, none⟩), .pointer (some a), .int .u64 406])).run Tryz.prog w = .ok (some (86, a, 406)) w := by kernel_rfl
theorem Ef.partsE (a : Addr) (w : World) : (ReflectliteValue.parts (.agg #[.pointer (some ⟨7, 86, none⟩), .pointer (some a), .int .u64 150])).run Tryz.prog w = .ok (some (86, a, 150)) w := by kernel_rfl
theorem Ef.directE (w : World) : (Rtype.directlyAssignable 86 86).run Tryz.prog w = .ok true w := by kernel_rfl
theorem Ef.setE (ta b : Addr) (e : Addr) (old : Value) (W : World) (hb : W.cell? b = some (.pointer (some e))) (ht : W.cell? ta = some old) (hf : W.frozen? ta = false) :
    (ReflectliteValue.set #[.agg #[.pointer (some ⟨7, 86, none⟩), .pointer (some ta), .int .u64 406], .agg #[.pointer (some ⟨7, 86, none⟩), .pointer (some b), .int .u64 150]]).run Tryz.prog W
      = .ok (.tuple #[]) (W.setCell ta (.pointer (some e))) := by
  show Sem.run Tryz.prog (ReflectliteValue.parts (.agg #[.pointer (some ⟨7, 86, none⟩), .pointer (some ta), .int .u64 406]) >>= fun p => ReflectliteValue.parts (.agg #[.pointer (some ⟨7, 86, none⟩), .pointer (some b), .int .u64 150]) >>= fun q => _) W = _
  simp only [Sem.run_bind, Ef.partsEa, Ef.partsE, Result.andThen]
  simp [ReflectliteValue.flagAddr, loadVar, isAgg, underlying, Tryz.underlying86, hb, Result.andThen, Ef.directE, storeVar, Value.cells, storeCells, Addr.add]
  rw [run_store Tryz.prog W ta _ _ (by rfl)]
  simp [ht, hf]
set_option maxHeartbeats 4000000 in
theorem Ef.as_hit (e : Addr) (t : Addr) (old : Value) (w : World) (hg : w.cell? ⟨0, 0, none⟩ = some (.iface 193 (.agg #[.pointer (some ⟨7, 36, none⟩)]))) (ht0 : w.cell? t = some old) (hf0 : w.frozen? t = false) :
    Calls Tryz.prog 45 #[.iface 86 (.pointer (some e)), .iface 95 (.pointer (some t))] w fun ev w' => ev = .returned (.bool true) ∧ w' = ((((w.alloc (.cells #[.pointer (some t)] 95)).alloc (.cells #[.pointer (some ⟨7, 95, none⟩), .pointer (some ⟨w.heap.size, 0, none⟩), .int .u64 150] 146)).alloc (.cells #[.pointer (some ⟨7, 95, none⟩), .pointer (some ⟨w.heap.size, 0, none⟩), .int .u64 150] 146)).alloc (.cells #[.pointer (some e)] 86)).setCell t (.pointer (some e)) := by
  have h6 := @run_callFunc_extern Tryz.prog 89 _ (fun args => ReflectliteValue.unpack (args.getD 0 (.tuple #[]))) Tryz.func89 (by kernel_rfl) (by kernel_rfl) (by kernel_rfl) (by kernel_rfl)
  have h7 := @run_callFunc_extern Tryz.prog 90 _ (ReflectliteValue.methodAny (ReflectliteValue.valueError "reflectlite.Value.Type" 0) (fun t _ _ _ => ReflectliteType.toType t)) Tryz.func90 (by kernel_rfl) (by kernel_rfl) (by kernel_rfl) (by kernel_rfl)
  have h8 := @run_callFunc_extern Tryz.prog 91 _ (ReflectliteValue.method (ReflectliteValue.valueError "reflectlite.Value.IsNil" 0) ReflectliteValue.isNil) Tryz.func91 (by kernel_rfl) (by kernel_rfl) (by kernel_rfl) (by kernel_rfl)
  have h27 := @run_callFunc_extern Tryz.prog 329 _ (ReflectliteType.abiMethod fun t => do pure (.int .u8 (← Rtype.kind t))) Tryz.func329 (by kernel_rfl) (by kernel_rfl) (by kernel_rfl) (by kernel_rfl)
  have h37 := @run_callFunc_extern Tryz.prog 342 _ (ReflectliteType.method ReflectliteType.elem) Tryz.func342 (by kernel_rfl) (by kernel_rfl) (by kernel_rfl) (by kernel_rfl)
  have h38 := @run_callFunc_extern Tryz.prog 343 _ (ReflectliteType.relation "Implements" ReflectliteType.implements_) Tryz.func343 (by kernel_rfl) (by kernel_rfl) (by kernel_rfl) (by kernel_rfl)
  have h10 := @run_callFunc_extern Tryz.prog 143 _ ReflectliteType.typeOf Tryz.func143 (by kernel_rfl) (by kernel_rfl) (by kernel_rfl) (by kernel_rfl)
  have h35 := @run_callFunc_extern Tryz.prog 340 _ (ReflectliteType.relation "AssignableTo" ReflectliteType.assignableTo) Tryz.func340 (by kernel_rfl) (by kernel_rfl) (by kernel_rfl) (by kernel_rfl)
  have h11 := @run_callFunc_extern Tryz.prog 144 _ (ReflectliteValue.method (ReflectliteValue.valueError "reflectlite.Value.Elem" 0) ReflectliteValue.elem) Tryz.func144 (by kernel_rfl) (by kernel_rfl) (by kernel_rfl) (by kernel_rfl)
  have h12 := @run_callFunc_extern Tryz.prog 145 _ ReflectliteValue.set Tryz.func145 (by kernel_rfl) (by kernel_rfl) (by kernel_rfl) (by kernel_rfl)
  have tO := Ef.typeOfE
  have mA := mAssignableTo
  have a25 := Ef.assignableE
  have v25 := Ef.valueOfE
  have f6 := Ef.valueOfP
  have f7 := Ef.typeP
  have mK := mKind
  have mE := mElem
  have mI := mImplements
  have k27 := Ef.kindP
  have k25 := Ef.kindE
  have e27 := Ef.elemP
  have i25 := Ef.implementsE
  have n8 := Ef.isNilP ⟨w.heap.size, 0, none⟩ t ((w.alloc (.cells #[.pointer (some t)] 95)).alloc (.cells #[.pointer (some ⟨7, 95, none⟩), .pointer (some ⟨w.heap.size, 0, none⟩), .int .u64 150] 146)) (by simp)
  have hlt : 0 < w.heap.size := by
    rcases Nat.lt_or_ge 0 w.heap.size with h | h
    · exact h
    · simp [World.cell?, Array.getElem?_eq_none h] at hg
  have hg2 : ((w.alloc (.cells #[.pointer (some t)] 95)).alloc (.cells #[.pointer (some ⟨7, 95, none⟩), .pointer (some ⟨w.heap.size, 0, none⟩), .int .u64 150] 146)).cell? ⟨0, 0, none⟩ = some (.iface 193 (.agg #[.pointer (some ⟨7, 36, none⟩)])) := by
    rw [World.cell?_alloc_lt _ _ ⟨0, 0, none⟩ (by simp <;> omega), World.cell?_alloc_lt _ _ ⟨0, 0, none⟩ hlt]; exact hg
  have htl : t.block < w.heap.size := by
    rcases Nat.lt_or_ge t.block w.heap.size with h | h
    · exact h
    · simp [World.cell?, Array.getElem?_eq_none h] at ht0
  have el := Ef.elemVP ⟨w.heap.size, 0, none⟩ t (((w.alloc (.cells #[.pointer (some t)] 95)).alloc (.cells #[.pointer (some ⟨7, 95, none⟩), .pointer (some ⟨w.heap.size, 0, none⟩), .int .u64 150] 146)).alloc (.cells #[.pointer (some ⟨7, 95, none⟩), .pointer (some ⟨w.heap.size, 0, none⟩), .int .u64 150] 146)) (by rw [World.cell?_alloc_lt _ _ ⟨w.heap.size, 0, none⟩ (by simp; omega)]; simp)
  have st := Ef.setE t ⟨w.heap.size + 1 + 1 + 1, 0, none⟩ e old ((((w.alloc (.cells #[.pointer (some t)] 95)).alloc (.cells #[.pointer (some ⟨7, 95, none⟩), .pointer (some ⟨w.heap.size, 0, none⟩), .int .u64 150] 146)).alloc (.cells #[.pointer (some ⟨7, 95, none⟩), .pointer (some ⟨w.heap.size, 0, none⟩), .int .u64 150] 146)).alloc (.cells #[.pointer (some e)] 86))
    (by rw [World.cell?_alloc_at _ _ _ _ (by simp)]; rfl)
    (by rw [World.cell?_alloc_lt _ _ t (by simp; omega), World.cell?_alloc_lt _ _ t (by simp; omega), World.cell?_alloc_lt _ _ t (by simp; omega), World.cell?_alloc_lt _ _ t htl]; exact ht0)
    (by rw [World.frozen?_alloc_old _ _ t (by simp; omega), World.frozen?_alloc_old _ _ t (by simp; omega), World.frozen?_alloc_old _ _ t (by simp; omega), World.frozen?_alloc_old _ _ t (Nat.ne_of_lt htl)]; exact hf0)
  go_enter Tryz.func45, Tryz.ntmps45
  go_wp2
  refine wp_loop_rounds 1 ?_
  rw [rounds_succ]
  go_wp2
  go_ret
  exact ⟨rfl, rfl⟩

theorem En.valueOfP (t : Addr) (w : World) : (ReflectliteValue.unpack (.iface 96 (.pointer (some t)))).run Tryz.prog w
    = .ok (.agg #[.pointer (some ⟨7, 96, none⟩), .pointer (some ⟨w.heap.size, 0, none⟩), .int .u64 150]) (w.alloc (.cells #[.pointer (some t)] 96)) := by kernel_rfl
theorem En.typeP (a : Addr) (w : World) : (ReflectliteValue.methodAny (ReflectliteValue.valueError "reflectlite.Value.Type" 0) (fun t _ _ _ => ReflectliteType.toType t) #[.agg #[.pointer (some ⟨7, 96, none⟩), .pointer (some a), .int .u64 150]]).run Tryz.prog w
    = .ok (.iface 193 (.agg #[.pointer (some ⟨7, 96, none⟩)])) w := by kernel_rfl
theorem En.kindP (w : World) : ((ReflectliteType.abiMethod fun t => Functor.map (fun a : Nat => Value.int IntKind.u8 (a : Int)) (Rtype.kind t)) #[.pointer (some ⟨7, 96, none⟩)]).run Tryz.prog w = .ok (.int .u8 22) w := by kernel_rfl
theorem En.kindE (w : World) : ((ReflectliteType.abiMethod fun t => Functor.map (fun a : Nat => Value.int IntKind.u8 (a : Int)) (Rtype.kind t)) #[.pointer (some ⟨7, 26, none⟩)]).run Tryz.prog w = .ok (.int .u8 2) w := by kernel_rfl
theorem En.partsP (a : Addr) (w : World) : (ReflectliteValue.parts (.agg #[.pointer (some ⟨7, 96, none⟩), .pointer (some a), .int .u64 150])).run Tryz.prog w = .ok (some (96, a, 150)) w := by kernel_rfl
theorem En.isNilP (a p : Addr) (W : World) (ha : W.cell? a = some (.pointer (some p))) :
    (ReflectliteValue.method (ReflectliteValue.valueError "reflectlite.Value.IsNil" 0) ReflectliteValue.isNil #[.agg #[.pointer (some ⟨7, 96, none⟩), .pointer (some a), .int .u64 150]]).run Tryz.prog W = .ok (.bool false) W := by
  show Sem.run Tryz.prog (ReflectliteValue.parts (.agg #[.pointer (some ⟨7, 96, none⟩), .pointer (some a), .int .u64 150]) >>= _) W = _
  simp only [Sem.run_bind, En.partsP, Result.andThen]
  simp [ReflectliteValue.isNil, loadVar, isAgg, underlying, Tryz.underlying96, ha, Result.andThen]
theorem En.elemP (w : World) : (ReflectliteType.method ReflectliteType.elem #[.agg #[.pointer (some ⟨7, 96, none⟩)]]).run Tryz.prog w = .ok (.iface 193 (.agg #[.pointer (some ⟨7, 26, none⟩)])) w := by kernel_rfl
theorem En.implementsE (w : World) : (ReflectliteType.relation "Implements" ReflectliteType.implements_ #[.agg #[.pointer (some ⟨7, 26, none⟩)], .iface 193 (.agg #[.pointer (some ⟨7, 36, none⟩)])]).run Tryz.prog w = .ok (.bool true) w := by kernel_rfl
theorem En.typeOfE (v : Value) (w : World) : (ReflectliteType.typeOf #[.iface 26 v]).run Tryz.prog w = .ok (.iface 193 (.agg #[.pointer (some ⟨7, 26, none⟩)])) w := by kernel_rfl
theorem En.assignableE (w : World) : (ReflectliteType.relation "AssignableTo" ReflectliteType.assignableTo #[.agg #[.pointer (some ⟨7, 26, none⟩)], .iface 193 (.agg #[.pointer (some ⟨7, 26, none⟩)])]).run Tryz.prog w = .ok (.bool true) w := by kernel_rfl
theorem En.valueOfE (z : Int) (w : World) : (ReflectliteValue.unpack (.iface 26 (.int .i64 z))).run Tryz.prog w
    = .ok (.agg #[.pointer (some ⟨7, 26, none⟩), .pointer (some ⟨w.heap.size, 0, none⟩), .int .u64 130]) (w.alloc (.cells #[.int .i64 z] 26)) := by kernel_rfl
theorem En.elemOfP (w : World) : (Rtype.elem? 96).run Tryz.prog w = .ok (some 26) w := by kernel_rfl
theorem En.mkE (p : Addr) (w : World) : (ReflectliteValue.mk 26 p ReflectliteValue.flagAddr).run Tryz.prog w = .ok (.agg #[.pointer (some ⟨7, 26, none⟩), .pointer (some p), .int .u64 386]) w := by kernel_rfl
theorem En.elemVP (a p : Addr) (W : World) (ha : W.cell? a = some (.pointer (some p))) :
    (ReflectliteValue.method (ReflectliteValue.valueError "reflectlite.Value.Elem" 0) ReflectliteValue.elem #[.agg #[.pointer (some ⟨7, 96, none⟩), .pointer (some a), .int .u64 150]]).run Tryz.prog W
      = .ok (.agg #[.pointer (some ⟨7, 26, none⟩), .pointer (some p), .int .u64 386]) W := by
  show Sem.run Tryz.prog (ReflectliteValue.parts (.agg #[.pointer (some ⟨7, 96, none⟩), .pointer (some a), .int .u64 150]) >>= _) W = _
  simp only [Sem.run_bind, En.partsP, Result.andThen]
  simp [ReflectliteValue.elem, loadVar, isAgg, underlying, Tryz.underlying96, ha, Result.andThen, En.elemOfP, En.mkE]
theorem En.partsEa (a : Addr) (w : World) : (ReflectliteValue.parts (.agg #[.pointer (some ⟨7, 26, none⟩), .pointer (some a), .int .u64 386])).run Tryz.prog w = .ok (some (26, a, 386)) w := by kernel_rfl
theorem En.partsE (a : Addr) (w : World) : (ReflectliteValue.parts (.agg #[.pointer (some ⟨7, 26, none⟩), .pointer (some a), .int .u64 130])).run Tryz.prog w = .ok (some (26, a, 130)) w := by kernel_rfl
theorem En.directE (w : World) : (Rtype.directlyAssignable 26 26).run Tryz.prog w = .ok true w := by kernel_rfl
theorem En.setE (ta b : Addr) (z : Int) (old : Value) (W : World) (hb : W.cell? b = some (.int .i64 z)) (ht : W.cell? ta = some old) (hf : W.frozen? ta = false) :
    (ReflectliteValue.set #[.agg #[.pointer (some ⟨7, 26, none⟩), .pointer (some ta), .int .u64 386], .agg #[.pointer (some ⟨7, 26, none⟩), .pointer (some b), .int .u64 130]]).run Tryz.prog W
      = .ok (.tuple #[]) (W.setCell ta (.int .i64 z)) := by
  show Sem.run Tryz.prog (ReflectliteValue.parts (.agg #[.pointer (some ⟨7, 26, none⟩), .pointer (some ta), .int .u64 386]) >>= fun p => ReflectliteValue.parts (.agg #[.pointer (some ⟨7, 26, none⟩), .pointer (some b), .int .u64 130]) >>= fun q => _) W = _
  simp only [Sem.run_bind, En.partsEa, En.partsE, Result.andThen]
  simp [ReflectliteValue.flagAddr, loadVar, isAgg, underlying, Tryz.underlying26, hb, Result.andThen, En.directE, storeVar, Value.cells, storeCells, Addr.add]
  rw [run_store Tryz.prog W ta _ _ (by rfl)]
  simp [ht, hf]
set_option maxHeartbeats 4000000 in
theorem En.as_hit (z : Int) (t : Addr) (old : Value) (w : World) (hg : w.cell? ⟨0, 0, none⟩ = some (.iface 193 (.agg #[.pointer (some ⟨7, 36, none⟩)]))) (ht0 : w.cell? t = some old) (hf0 : w.frozen? t = false) :
    Calls Tryz.prog 45 #[.iface 26 (.int .i64 z), .iface 96 (.pointer (some t))] w fun ev w' => ev = .returned (.bool true) ∧ w' = ((((w.alloc (.cells #[.pointer (some t)] 96)).alloc (.cells #[.pointer (some ⟨7, 96, none⟩), .pointer (some ⟨w.heap.size, 0, none⟩), .int .u64 150] 146)).alloc (.cells #[.pointer (some ⟨7, 96, none⟩), .pointer (some ⟨w.heap.size, 0, none⟩), .int .u64 150] 146)).alloc (.cells #[.int .i64 z] 26)).setCell t (.int .i64 z) := by
  have h6 := @run_callFunc_extern Tryz.prog 89 _ (fun args => ReflectliteValue.unpack (args.getD 0 (.tuple #[]))) Tryz.func89 (by kernel_rfl) (by kernel_rfl) (by kernel_rfl) (by kernel_rfl)
  have h7 := @run_callFunc_extern Tryz.prog 90 _ (ReflectliteValue.methodAny (ReflectliteValue.valueError "reflectlite.Value.Type" 0) (fun t _ _ _ => ReflectliteType.toType t)) Tryz.func90 (by kernel_rfl) (by kernel_rfl) (by kernel_rfl) (by kernel_rfl)
  have h8 := @run_callFunc_extern Tryz.prog 91 _ (ReflectliteValue.method (ReflectliteValue.valueError "reflectlite.Value.IsNil" 0) ReflectliteValue.isNil) Tryz.func91 (by kernel_rfl) (by kernel_rfl) (by kernel_rfl) (by kernel_rfl)
  have h27 := @run_callFunc_extern Tryz.prog 329 _ (ReflectliteType.abiMethod fun t => do pure (.int .u8 (← Rtype.kind t))) Tryz.func329 (by kernel_rfl) (by kernel_rfl) (by kernel_rfl) (by kernel_rfl)
  have h37 := @run_callFunc_extern Tryz.prog 342 _ (ReflectliteType.method ReflectliteType.elem) Tryz.func342 (by kernel_rfl) (by kernel_rfl) (by kernel_rfl) (by kernel_rfl)
  have h38 := @run_callFunc_extern Tryz.prog 343 _ (ReflectliteType.relation "Implements" ReflectliteType.implements_) Tryz.func343 (by kernel_rfl) (by kernel_rfl) (by kernel_rfl) (by kernel_rfl)
  have h10 := @run_callFunc_extern Tryz.prog 143 _ ReflectliteType.typeOf Tryz.func143 (by kernel_rfl) (by kernel_rfl) (by kernel_rfl) (by kernel_rfl)
  have h35 := @run_callFunc_extern Tryz.prog 340 _ (ReflectliteType.relation "AssignableTo" ReflectliteType.assignableTo) Tryz.func340 (by kernel_rfl) (by kernel_rfl) (by kernel_rfl) (by kernel_rfl)
  have h11 := @run_callFunc_extern Tryz.prog 144 _ (ReflectliteValue.method (ReflectliteValue.valueError "reflectlite.Value.Elem" 0) ReflectliteValue.elem) Tryz.func144 (by kernel_rfl) (by kernel_rfl) (by kernel_rfl) (by kernel_rfl)
  have h12 := @run_callFunc_extern Tryz.prog 145 _ ReflectliteValue.set Tryz.func145 (by kernel_rfl) (by kernel_rfl) (by kernel_rfl) (by kernel_rfl)
  have tO := En.typeOfE
  have mA := mAssignableTo
  have a25 := En.assignableE
  have v25 := En.valueOfE
  have f6 := En.valueOfP
  have f7 := En.typeP
  have mK := mKind
  have mE := mElem
  have mI := mImplements
  have k27 := En.kindP
  have k25 := En.kindE
  have e27 := En.elemP
  have i25 := En.implementsE
  have n8 := En.isNilP ⟨w.heap.size, 0, none⟩ t ((w.alloc (.cells #[.pointer (some t)] 96)).alloc (.cells #[.pointer (some ⟨7, 96, none⟩), .pointer (some ⟨w.heap.size, 0, none⟩), .int .u64 150] 146)) (by simp)
  have hlt : 0 < w.heap.size := by
    rcases Nat.lt_or_ge 0 w.heap.size with h | h
    · exact h
    · simp [World.cell?, Array.getElem?_eq_none h] at hg
  have hg2 : ((w.alloc (.cells #[.pointer (some t)] 96)).alloc (.cells #[.pointer (some ⟨7, 96, none⟩), .pointer (some ⟨w.heap.size, 0, none⟩), .int .u64 150] 146)).cell? ⟨0, 0, none⟩ = some (.iface 193 (.agg #[.pointer (some ⟨7, 36, none⟩)])) := by
    rw [World.cell?_alloc_lt _ _ ⟨0, 0, none⟩ (by simp <;> omega), World.cell?_alloc_lt _ _ ⟨0, 0, none⟩ hlt]; exact hg
  have htl : t.block < w.heap.size := by
    rcases Nat.lt_or_ge t.block w.heap.size with h | h
    · exact h
    · simp [World.cell?, Array.getElem?_eq_none h] at ht0
  have el := En.elemVP ⟨w.heap.size, 0, none⟩ t (((w.alloc (.cells #[.pointer (some t)] 96)).alloc (.cells #[.pointer (some ⟨7, 96, none⟩), .pointer (some ⟨w.heap.size, 0, none⟩), .int .u64 150] 146)).alloc (.cells #[.pointer (some ⟨7, 96, none⟩), .pointer (some ⟨w.heap.size, 0, none⟩), .int .u64 150] 146)) (by rw [World.cell?_alloc_lt _ _ ⟨w.heap.size, 0, none⟩ (by simp; omega)]; simp)
  have st := En.setE t ⟨w.heap.size + 1 + 1 + 1, 0, none⟩ z old ((((w.alloc (.cells #[.pointer (some t)] 96)).alloc (.cells #[.pointer (some ⟨7, 96, none⟩), .pointer (some ⟨w.heap.size, 0, none⟩), .int .u64 150] 146)).alloc (.cells #[.pointer (some ⟨7, 96, none⟩), .pointer (some ⟨w.heap.size, 0, none⟩), .int .u64 150] 146)).alloc (.cells #[.int .i64 z] 26))
    (by rw [World.cell?_alloc_at _ _ _ _ (by simp)]; rfl)
    (by rw [World.cell?_alloc_lt _ _ t (by simp; omega), World.cell?_alloc_lt _ _ t (by simp; omega), World.cell?_alloc_lt _ _ t (by simp; omega), World.cell?_alloc_lt _ _ t htl]; exact ht0)
    (by rw [World.frozen?_alloc_old _ _ t (by simp; omega), World.frozen?_alloc_old _ _ t (by simp; omega), World.frozen?_alloc_old _ _ t (by simp; omega), World.frozen?_alloc_old _ _ t (Nat.ne_of_lt htl)]; exact hf0)
  go_enter Tryz.func45, Tryz.ntmps45
  go_wp2
  refine wp_loop_rounds 1 ?_
  rw [rounds_succ]
  go_wp2
  go_ret
  exact ⟨rfl, rfl⟩
end Go.Proofs.YtgiojkhmkeocfaaGreatDoor.Es

/- The law's Seen, walked: which fault an error is. -/
set_option maxRecDepth 20000
namespace Go.Proofs.YtgiojkhmkeocfaaGreatDoor
open Go.RowKit

/-- what errors.errorType holds -/
def ErrT (w : World) : Prop := w.cell? ⟨0, 0, none⟩ = some (.iface 193 (.agg #[.pointer (some ⟨7, 36, none⟩)]))
theorem ErrT.lt {w : World} (h : ErrT w) : 0 < w.heap.size := World.block_lt_of_cell? w _ h
theorem ErrT.low {w u : World} {N : Nat} (h : ErrT w) (hb : Below N w u) (hN : w.heap.size ≤ N) : ErrT u := (World.cell?_of_block (w := w) (hb.block _ (Nat.lt_of_lt_of_le h.lt hN))).trans h
theorem grown_alc {w u : World} {r : Option Nat} (h : w.grownBy u r) (o : Obj) : w.grownBy (u.alloc o) r := grown_two h (World.grownBy_alloc u o r)
theorem as_fault (g b : Nat) (old : Value) (w : World) (hE : ErrT w) (hb : w.heap[b]? = some (.cells #[old] 86)) :
    Calls Tryz.prog 45 #[.iface 86 (.pointer (some ⟨g, 0, none⟩)), .iface 95 (.pointer (some ⟨b, 0, none⟩))] w fun e w' => e = .returned (.bool true) ∧ w'.heap[b]? = some (.cells #[.pointer (some ⟨g, 0, none⟩)] 86) ∧ w.grownBy w' (some b) := by
  refine (Es.Ef.as_hit ⟨g, 0, none⟩ ⟨b, 0, none⟩ old w hE (by rw [Lib.cell_of_heap hb]; rfl) (Lib.frozen_of_heap hb 0)).mono ?_
  rintro e w' ⟨rfl, rfl⟩
  have hl := (Array.getElem?_eq_some_iff.1 hb).1
  refine ⟨rfl, ?_, grown_two (grown_alc (grown_alc (grown_alc (World.grownBy_alloc w _ _) _) _) _) (grown_set _ b 0 _)⟩
  refine (heap_setCell_same _ b 0 #[old] _ _ ?_).trans rfl
  rw [Lib.alloc_old _ _ _ (by simp; omega), Lib.alloc_old _ _ _ (by simp; omega), Lib.alloc_old _ _ _ (by simp; omega), Lib.alloc_old _ _ _ hl]
  exact hb
theorem as_errno (z : Int) (b : Nat) (old : Value) (w : World) (hE : ErrT w) (hb : w.heap[b]? = some (.cells #[old] 26)) :
    Calls Tryz.prog 45 #[.iface 26 (.int .i64 z), .iface 96 (.pointer (some ⟨b, 0, none⟩))] w fun e w' => e = .returned (.bool true) ∧ w'.heap[b]? = some (.cells #[.int .i64 z] 26) ∧ w.grownBy w' (some b) := by
  refine (Es.En.as_hit z ⟨b, 0, none⟩ old w hE (by rw [Lib.cell_of_heap hb]; rfl) (Lib.frozen_of_heap hb 0)).mono ?_
  rintro e w' ⟨rfl, rfl⟩
  have hl := (Array.getElem?_eq_some_iff.1 hb).1
  refine ⟨rfl, ?_, grown_two (grown_alc (grown_alc (grown_alc (World.grownBy_alloc w _ _) _) _) _) (grown_set _ b 0 _)⟩
  refine (heap_setCell_same _ b 0 #[old] _ _ ?_).trans rfl
  rw [Lib.alloc_old _ _ _ (by simp; omega), Lib.alloc_old _ _ _ (by simp; omega), Lib.alloc_old _ _ _ (by simp; omega), Lib.alloc_old _ _ _ hl]
  exact hb
/-- a place and an error, in a box -/
def fvO (a z : Int) : Obj := .cells #[.int .i64 a, .int .i64 z] 42
set_option maxHeartbeats 2000000 in
theorem seen_nil (w : World) : Calls Tryz.prog 17 #[.nilIface] w fun e w' => e = .returned (.agg #[.int .i64 0, .int .i64 0]) ∧ Below w.heap.size w w' := by
  have hb : Below w.heap.size w (w.alloc (fvO 0 0)) := (Below.refl _ w).alloc (Nat.le_refl _) _
  have ha := heap_alloc_new w (fvO 0 0)
  unfold fvO at hb ha
  go_enter Tryz.func17, Tryz.ntmps17
  go_wp2
  exact bodyPost_ret (v := .agg #[.int .i64 0, .int .i64 0]) (results_cell_row rfl _ _ w.heap.size 42 #[.int .i64 0, .int .i64 0] (0, 0) _ rfl (by first | exact ha | (simp [ha]; done)) Tryz.underlying42 rfl (by kernel_rfl)) rfl ⟨rfl, hb⟩
set_option maxHeartbeats 4000000 in
theorem seen_flt (g : Nat) (a z : Int) (w : World) (hE : ErrT w) (hg : w.heap[g]? = some (fltO a z)) : Calls Tryz.prog 17 #[.iface 86 (.pointer (some ⟨g, 0, none⟩))] w fun e w' => e = .returned (.agg #[.int .i64 a, .int .i64 z]) ∧ Below w.heap.size w w' := by
  have hgl := (Array.getElem?_eq_some_iff.1 hg).1
  have z1 : (w.alloc (fvO 0 0)).heap.size = w.heap.size + 1 := by simp
  have z2 : ((w.alloc (fvO 0 0)).alloc (.cells #[.pointer none] 86)).heap.size = w.heap.size + 1 + 1 := by simp
  have a0 := heap_alloc_new w (fvO 0 0)
  have a1 := heap_alloc_new (w.alloc (fvO 0 0)) (.cells #[.pointer none] 86)
  have a2 := heap_alloc_new ((w.alloc (fvO 0 0)).alloc (.cells #[.pointer none] 86)) (.cells #[.int .i64 0] 26)
  rw [z1] at a1
  rw [z2] at a2
  have hb1 : Below w.heap.size w (w.alloc (fvO 0 0)) := (Below.refl _ w).alloc (Nat.le_refl _) _
  have hb2 := hb1.alloc hb1.size (.cells #[.pointer none] 86)
  have hb3 := hb2.alloc hb2.size (.cells #[.int .i64 0] 26)
  have e1 := (Lib.alloc_old _ (.cells #[.int .i64 0] 26) _ (by rw [z2]; omega)).trans a1
  have e0 := (Lib.alloc_old _ (.cells #[.int .i64 0] 26) _ (by rw [z2]; omega)).trans ((Lib.alloc_old _ (.cells #[.pointer none] 86) _ (by rw [z1]; omega)).trans a0)
  have hg3 := (hb3.block g hgl).trans hg
  have hE3 := hE.low hb3 (Nat.le_refl _)
  have hW : ((w.alloc (.cells #[.int .i64 0, .int .i64 0] 42)).alloc (.cells #[.pointer none] 86)).alloc (.cells #[.int .i64 0] 26) = ((w.alloc (fvO 0 0)).alloc (.cells #[.pointer none] 86)).alloc (.cells #[.int .i64 0] 26) := rfl
  have hEl : 0 < w.heap.size := hE.lt
  clear hb1 hb2 a0 a1 z1 z2 hE hg
  go_enter Tryz.func17, Tryz.ntmps17
  go_wp2_with fail
  clear hW
  generalize ((w.alloc (fvO 0 0)).alloc (.cells #[.pointer none] 86)).alloc (.cells #[.int .i64 0] 26) = W at *
  refine (as_fault g (w.heap.size + 1) (.pointer none) W hE3 e1).mono ?_
  rintro e W1 ⟨rfl, e1', hgr⟩
  have kp : ∀ (k : Nat) (x : Obj), k ≠ w.heap.size + 1 → W.heap[k]? = some x → W1.heap[k]? = some x := fun k x hk hx => (hgr.block k (Array.getElem?_eq_some_iff.1 hx).1 (fun e => hk (Option.some.inj e))).trans hx
  have i0 := kp _ _ (by omega) e0
  have i2 := kp _ _ (by omega) a2
  have ig := kp _ _ (by omega) hg3
  have hb4 := hb3.grown hgr hb3.size (fun k e => by cases e; omega)
  have hE4 : ErrT W1 := (World.cell?_of_block (w := W) (hgr.block _ hE3.lt (fun e => by have h1 : 0 = w.heap.size + 1 := Option.some.inj e; omega))).trans hE3
  have c1 : W1.cell? ⟨w.heap.size + 1, 0, none⟩ = some (.pointer (some ⟨g, 0, none⟩)) := by rw [Lib.cell_of_heap e1']; rfl
  have cg1 : W1.cell? ⟨g, 1, none⟩ = some (.iface 26 (.int .i64 z)) := by unfold fltO at ig; rw [Lib.cell_of_heap ig]; rfl
  clear kp e0 e1 a2 hg3 hb3 hE3 hgr
  go_wp2_with fail
  clear c1 cg1
  refine (as_errno z (w.heap.size + 1 + 1) (.int .i64 0) W1 hE4 i2).mono ?_
  rintro e W2 ⟨rfl, i2', hgr⟩
  have kp : ∀ (k : Nat) (x : Obj), k ≠ w.heap.size + 1 + 1 → W1.heap[k]? = some x → W2.heap[k]? = some x := fun k x hk hx => (hgr.block k (Array.getElem?_eq_some_iff.1 hx).1 (fun e => hk (Option.some.inj e))).trans hx
  have j0 := kp _ _ (by omega) i0
  have j1 := kp _ _ (by omega) e1'
  have jg := kp _ _ (by omega) ig
  have hb5 := hb4.grown hgr hb4.size (fun k e => by cases e; omega)
  have s0 := heap_setCell_same W2 w.heap.size 0 _ _ (.int .i64 a) j0
  have s1 := heap_setCell_same _ w.heap.size 1 _ _ (.int .i64 z) s0
  have hb6 : Below w.heap.size w ((W2.setCell ⟨w.heap.size, 0, none⟩ (.int .i64 a)).setCell ⟨w.heap.size, 1, none⟩ (.int .i64 z)) := (hb5.setCell (Nat.le_refl _) _).setCell (Nat.le_refl _) _
  have c1 : W2.cell? ⟨w.heap.size + 1, 0, none⟩ = some (.pointer (some ⟨g, 0, none⟩)) := by rw [Lib.cell_of_heap j1]; rfl
  have c2 : W2.cell? ⟨w.heap.size + 1 + 1, 0, none⟩ = some (.int .i64 z) := by rw [Lib.cell_of_heap i2']; rfl
  have cg0 : W2.cell? ⟨g, 0, none⟩ = some (.int .i64 a) := by unfold fltO at jg; rw [Lib.cell_of_heap jg]; rfl
  have t0 : W2.cell? ⟨w.heap.size, 0, none⟩ = some (.int .i64 0) := by unfold fvO at j0; rw [Lib.cell_of_heap j0]; rfl
  have t1 : W2.cell? ⟨w.heap.size, 1, none⟩ = some (.int .i64 0) := by unfold fvO at j0; rw [Lib.cell_of_heap j0]; rfl
  have t2 := Lib.frozen_of_heap j0 0
  have t3 := Lib.frozen_of_heap j0 1
  clear kp i0 e1' ig hb4 hE4 i2 i2' hgr j0 j1 jg hb5 s0
  go_wp2_with fail
  go_region
  have s2 : ((W2.setCell ⟨w.heap.size, 0, none⟩ (.int .i64 a)).setCell ⟨w.heap.size, 1, none⟩ (.int .i64 z)).drew.heap[w.heap.size]? = some (.cells #[.int .i64 a, .int .i64 z] 42) := s1
  have hb7 := hb6.drew
  clear s1 hb6 c1 c2 cg0 t0 t1 t2 t3
  generalize ((W2.setCell ⟨w.heap.size, 0, none⟩ (.int .i64 a)).setCell ⟨w.heap.size, 1, none⟩ (.int .i64 z)).drew = W3 at *
  go_wp2
  exact bodyPost_ret (v := .agg #[.int .i64 a, .int .i64 z]) (results_cell_row rfl _ _ w.heap.size 42 #[.int .i64 a, .int .i64 z] (0, 0) _ rfl s2 Tryz.underlying42 rfl (by kernel_rfl)) rfl ⟨rfl, hb7⟩
end Go.Proofs.YtgiojkhmkeocfaaGreatDoor

/- The references' Parse of layer 16 by states (plain), and what both Parses of a layer answer, fault or not. -/
set_option maxRecDepth 20000
namespace Go.Proofs.YtgiojkhmkeocfaaGreatDoor
open Go.RowKit
open Ln

theorem uhk_g {L : List (List UInt8)} (hP : Plain L) (k p : Nat) : uhkP k p (L.drop p) = match uhZ k L p with
    | .error e => .error e
    | .ok (h, p1) => .ok (h, p1, L.drop p1) := by
  unfold uhZ
  cases h : uhkP k p (L.drop p) with
  | error e => rfl
  | ok z =>
    obtain ⟨h0, p1, r⟩ := z
    obtain ⟨rfl, _⟩ := uhk_drop hP h
    rfl
theorem uhs_g {L : List (List UInt8)} (hP : Plain L) (x : List UInt8) (f : Nat) : ∀ k p : Nat, uhsP x f k p (L.drop p) = match gHs uhZ x L f k p with
    | .error e => .error e
    | .ok (hs, p1) => .ok (hs, p1, L.drop p1) := by
  induction f with
  | zero => intro k p; rfl
  | succ f ih =>
    intro k p
    simp only [uhsP, gHs]
    rw [uhk_g hP]
    cases uhZ k L p with
    | error e => rfl
    | ok z =>
      obtain ⟨h, p1⟩ := z
      dsimp only
      have e : pkU x (L.drop p1) = pkG x (L.drop p1) := by cases L.drop p1 <;> rfl
      rw [e]
      by_cases h2 : pkG x (L.drop p1) = true
      · rw [if_pos h2, if_pos h2, ih]
        cases gHs uhZ x L f (k + 1) p1 with
        | error e => rfl
        | ok z => rfl
      · rw [if_neg h2, if_neg h2]
theorem ups_g {L : List (List UInt8)} (hP : Plain L) (x : List UInt8) (f : Nat) : ∀ k p : Nat, upsP x f k p (L.drop p) = gPs uhZ x [45, 45, 45, 32] [43, 43, 43, 32] L f k p := by
  induction f with
  | zero => intro k p; rfl
  | succ f ih =>
    intro k p
    simp only [upsP, gPs, gPa, nmZ]
    by_cases h0 : L.length ≤ p
    · rw [if_pos (List.drop_of_length_le h0), if_pos h0]
    · rw [if_neg (fun q => h0 (List.drop_eq_nil_iff.1 q)), if_neg h0]
      cases h1 : namP [45, 45, 45, 32] p (L.drop p) with
      | error e => rfl
      | ok z =>
        obtain ⟨n1, r1⟩ := z
        obtain ⟨rfl, _⟩ := nam_drop h1
        dsimp only
        by_cases h2 : 64 ≤ k
        · rw [if_pos h2, if_pos h2]
        · rw [if_neg h2, if_neg h2]
          cases h3 : namP [43, 43, 43, 32] (p + 1) (L.drop (p + 1)) with
          | error e => rfl
          | ok z =>
            obtain ⟨n2, r2⟩ := z
            obtain ⟨rfl, _⟩ := nam_drop h3
            dsimp only
            rw [uhs_g hP x _ 0 (p + 1 + 1)]
            cases gHs uhZ x L ((L.drop (p + 1 + 1)).length + 1) 0 (p + 1 + 1) with
            | error e => rfl
            | ok z =>
              obtain ⟨hs, p3⟩ := z
              dsimp only [gIn]
              rw [ih]
              cases gPs uhZ x [45, 45, 45, 32] [43, 43, 43, 32] L f (k + 1) p3 <;> rfl
theorem unT_g (x t : List UInt8) (hl : ¬ 1048576 < t.length) : unT x t = gPs uhZ x [45, 45, 45, 32] [43, 43, 43, 32] (splitL t) (splitL t).length 0 0 := by
  unfold unT
  rw [if_neg hl]
  have h := ups_g (split_plain t) x (splitL t).length 0 0
  rw [List.drop_zero] at h
  exact h
theorem thenPs_nil (X : Except (Nat × Int) (List Pth)) : thenPs [] X = X := by
  cases X <;> rfl
/-- Read, as Parse's own variables have it -/
theorem rRead_g (t : List UInt8) (w W0 : World) (hW0 : w.alloc (.cells #[.int .i64 0, .int .i64 0] 42) = W0) (hl : t.length ≤ 1048576) :
    Calls Tryz.prog 52 #[.string ⟨t.toArray⟩] W0 fun e w' => ∃ (R : Nat) (lo : Option Addr) (lc : Nat), e = .returned (.pointer (some ⟨R, 0, none⟩)) ∧ Rg w R (splitL t) (.slice lo (splitL t).length lc) (.slice none 0 0) [] (.ok 0) w' := by
  refine (rRead15_f t W0 hl).mono ?_
  rintro e w1 ⟨R, lo, lc, rfl, hR, hown, _, hge, hB⟩
  subst hW0
  have hB0 : Below w.heap.size w (w.alloc (.cells #[.int .i64 0, .int .i64 0] 42)) := (Below.refl _ w).alloc (Nat.le_refl _) _
  have hn := heap_alloc_new w (.cells #[.int .i64 0, .int .i64 0] 42)
  have hlt := (Array.getElem?_eq_some_iff.1 hn).1
  exact ⟨R, lo, lc, rfl, ⟨hB0.trans (hB.mono hB0.size), hnil_row _ _ _ _, fun f hf => by cases hf⟩, (hB.block _ hlt).trans hn, hR, by omega, own_base hown hB0.size⟩
theorem rRead_gl (t : List UInt8) (w W0 : World) (hW0 : w.alloc (.cells #[.int .i64 0, .int .i64 0] 42) = W0) (hl : 1048576 < t.length) :
    Calls Tryz.prog 52 #[.string ⟨t.toArray⟩] W0 fun e w' => ∃ (R : Nat) (lo : Option Addr) (lc : Nat), e = .returned (.pointer (some ⟨R, 0, none⟩)) ∧ Rg w R [] (.slice lo ([] : List (List UInt8)).length lc) (.slice none 0 0) [] (.error (0, 9)) w' := by
  refine (rRead15_long t W0 hl).mono ?_
  rintro e w1 ⟨rfl, hR, hB⟩
  subst hW0
  have hB0 : Below w.heap.size w (w.alloc (.cells #[.int .i64 0, .int .i64 0] 42)) := (Below.refl _ w).alloc (Nat.le_refl _) _
  have hn := heap_alloc_new w (.cells #[.int .i64 0, .int .i64 0] 42)
  have hlt := (Array.getElem?_eq_some_iff.1 hn).1
  exact ⟨_, none, 0, rfl, ⟨hB0.trans (hB.mono hB0.size), hnil_row _ _ _ _, fun f hf => by cases hf⟩, (hB.block _ hlt).trans hn, ⟨⟨0, hR⟩, by decide⟩, hlt, hnil_row _ _ _ _⟩

/-- what is read, and its fault -/
def okP (X : Except (Nat × Int) (List Pth)) : List Pth := match X with
  | .error _ => []
  | .ok l => l
def faP (X : Except (Nat × Int) (List Pth)) : Int × Int := match X with
  | .error (a, z) => ((a : Int), z)
  | .ok _ => (0, 0)
/-- what a layer's Parse answers, fault or not -/
def PuQ (w : World) (X : Except (Nat × Int) (List Pth)) (e : Ending) (w' : World) : Prop := ∃ o c F ev, e = .returned (.tuple #[.slice o F.length c, ev]) ∧ Pw w (.slice o F.length c) F w' ∧ F.map (·.x) = okP X ∧ ∀ u : World, Below w'.heap.size w' u → ErrT u → Calls Tryz.prog 17 #[ev] u fun e u' => e = .returned (.agg #[.int .i64 (faP X).1, .int .i64 (faP X).2]) ∧ Below u.heap.size u u'
theorem prq_u {w : World} {X : Except (Nat × Int) (List Pth)} {e : Ending} {w' : World} (hq : PrQ w X e w') : PuQ w X e w' := by
  cases X with
  | error z =>
    obtain ⟨a, z⟩ := z
    obtain ⟨g, rfl, hg, hb⟩ := hq
    exact ⟨none, 0, [], _, rfl, ⟨hb, hnil_row _ _ _ _, fun x hx => by cases hx⟩, rfl, fun u hu hE => seen_flt g (a : Int) z u hE ((hu.block g (Array.getElem?_eq_some_iff.1 hg).1).trans hg)⟩
  | ok l =>
    obtain ⟨v, F, rfl, hP, hPm⟩ := hq
    obtain ⟨o, c, rfl⟩ := (holds_of hP.own).form
    exact ⟨o, c, F, _, rfl, hP, hPm, fun u _ _ => seen_nil u⟩
/-- what the reference's Parse answers, fault or not -/
def RuQ (w : World) (X : Except (Nat × Int) (List Pth)) (e : Ending) (w' : World) : Prop := ∃ o c F, e = .returned (.tuple #[.slice o F.length c, .agg #[.int .i64 (faP X).1, .int .i64 (faP X).2]]) ∧ Pw w (.slice o F.length c) F w' ∧ F.map (·.x) = okP X
theorem rfq_u {w : World} {X : Except (Nat × Int) (List Pth)} {e : Ending} {w' : World} (hq : RfQ6 w X e w') : RuQ w X e w' := by
  cases X with
  | error z =>
    obtain ⟨a, z⟩ := z
    obtain ⟨rfl, _, hb⟩ := hq
    exact ⟨none, 0, [], rfl, ⟨hb, hnil_row _ _ _ _, fun x hx => by cases hx⟩, rfl⟩
  | ok l =>
    obtain ⟨v, F, rfl, hP, hPm⟩ := hq
    obtain ⟨o, c, rfl⟩ := (holds_of hP.own).form
    exact ⟨o, c, F, rfl, hP, hPm⟩
end Go.Proofs.YtgiojkhmkeocfaaGreatDoor

/- The reference's Parse of layer 16: its contract. -/
set_option maxRecDepth 20000
namespace Go.Proofs.YtgiojkhmkeocfaaGreatDoor
open Go.RowKit
open Ln

theorem rParse16_f (t : List UInt8) (w : World) (X : Except (Nat × Int) (List Pth)) (HX : Hid (unT atR t = X)) :
    Calls Tryz.prog 27 #[.string ⟨t.toArray⟩] w fun e w' => RfQ6 w X e w' := by
  have hX := HX.out
  by_cases hlong : 1048576 < t.length
  · have hXe : X = .error (0, 9) := (by rw [← hX]; unfold unT; rw [if_pos hlong])
    subst hXe
    exact rParse16S (L := []) t w _ rfl (fun s hs => by cases hs) (by simp) (fun s hs => by cases hs) (.error (0, 9)) 0 _ rfl (rRead_gl t w _ rfl hlong)
  · have hb := split_shortC (t := t) (M := 1048576) (by omega)
    have hn := split_len t
    refine rParse16S (L := splitL t) t w _ rfl (split_plain t) (by omega) (fun s hs => by have := hb s hs; omega) (.ok 0) (splitL t).length X ?_ (rRead_g t w _ rfl (by omega))
    refine ⟨?_, Nat.zero_le _, by omega, Nat.le_refl _⟩
    show thenPs [] (gPs uhZ atR [45, 45, 45, 32] [43, 43, 43, 32] (splitL t) (splitL t).length 0 0) = X
    rw [thenPs_nil, ← hX, unT_g atR t hlong]
end Go.Proofs.YtgiojkhmkeocfaaGreatDoor

/- What works() of redlinelaw15 prints and reads; plain. -/
set_option maxRecDepth 20000
namespace Go.Proofs.YtgiojkhmkeocfaaGreatDoor
open Ln

end Go.Proofs.YtgiojkhmkeocfaaGreatDoor

/- How large what is read of a text in the context form is; plain mathematics. -/
set_option maxRecDepth 20000
namespace Go.Proofs.YtgiojkhmkeocfaaGreatDoor
open Ln

/-- the bytes of lines, and one a line -/
def szL : List (List UInt8) → Nat
  | [] => 0
  | s :: r => s.length + 1 + szL r
theorem szl_tail (l : List (List UInt8)) : szL l.tail ≤ szL l := by
  cases l with
  | nil => exact Nat.le_refl _
  | cons s r => simp only [List.tail_cons, szL]; omega
theorem szl_len (l : List (List UInt8)) : szL l = l.flatten.length + l.length := by
  induction l with
  | nil => rfl
  | cons s r ih =>
    simp only [szL, List.flatten_cons, List.length_append, List.length_cons, ih]
    omega
theorem nxt_sz {p : Nat} {ls r : List (List UInt8)} {s : List UInt8} (h : nxt p ls = .ok (s, r)) : szL r + 1 ≤ szL ls := by
  cases ls with
  | nil => cases h
  | cons t l =>
    simp only [nxt] at h
    split at h
    · cases h
      simp only [szL]
      omega
    · cases h
/-- the size of patches -/
def ptM : List Pth → Nat
  | [] => 0
  | p :: L => 416 + hsS p.hs + ptM L
theorem nam_sz {ah n : List UInt8} {p : Nat} {ls r : List (List UInt8)} (h : namP ah p ls = .ok (n, r)) : szL r + 1 ≤ szL ls := by
  unfold namP at h
  split at h
  · cases h
  · rename_i s r0 hn
    have := nxt_sz hn
    split at h
    · split at h
      · cases h
      · cases h
        exact this
    · cases h
theorem ptM_mem {L : List Pth} {p : Pth} (h : p ∈ L) : 416 + hsS p.hs ≤ ptM L := by
  induction L with
  | nil => cases h
  | cons q L ih =>
    simp only [ptM]
    rcases List.mem_cons.1 h with rfl | h
    · omega
    · have := ih h
      omega
theorem hsS_mem {l : List Hk} {x : Hk} (h : x ∈ l) : x.ls.length + txS x.ls ≤ hsS l := by
  induction l with
  | nil => cases h
  | cons q l ih =>
    simp only [hsS]
    rcases List.mem_cons.1 h with rfl | h
    · omega
    · have := ih h
      omega
theorem hsS_len (l : List Hk) : l.length ≤ hsS l := by
  induction l with
  | nil => exact Nat.le_refl _
  | cons q l ih =>
    simp only [hsS, List.length_cons]
    omega
theorem txS_mem {l : List Mk} {m : Mk} (h : m ∈ l) : m.tx.length ≤ txS l := by
  induction l with
  | nil => cases h
  | cons q l ih =>
    simp only [txS]
    rcases List.mem_cons.1 h with rfl | h
    · omega
    · have := ih h
      omega
theorem hok_size {p : List (Hk × Value)} (h : hsS (p.map (·.1)) ≤ 436207616) : HOk p := by
  refine ⟨?_, fun x hx => ?_⟩
  · have := hsS_len (p.map (·.1))
    rw [List.length_map] at this
    omega
  · have := hsS_mem (List.mem_map_of_mem (f := (·.1)) hx)
    refine ⟨by omega, fun m hm => ?_⟩
    have := txS_mem hm
    omega
end Go.Proofs.YtgiojkhmkeocfaaGreatDoor

/- The laws' own works of layer 15, walked. -/
set_option maxRecDepth 20000
namespace Go.Proofs.YtgiojkhmkeocfaaGreatDoor
open Go.RowKit

end Go.Proofs.YtgiojkhmkeocfaaGreatDoor

/- The walk of the law CtxfmtAgain. -/
set_option maxRecDepth 20000
namespace Go.Proofs.YtgiojkhmkeocfaaGreatDoor
open Go.RowKit

end Go.Proofs.YtgiojkhmkeocfaaGreatDoor

/- How long a text in the unified form is, and how large what is read of one is; plain mathematics. -/
set_option maxRecDepth 20000
namespace Go.Proofs.YtgiojkhmkeocfaaGreatDoor
open Ln

theorem nxt_szl {p : Nat} {ls r : List (List UInt8)} {s : List UInt8} (h : nxt p ls = .ok (s, r)) : s.length + 2 + szL r ≤ szL ls := by
  have := nxt_ok h
  subst this
  simp only [szL, List.length_append, List.length_cons, List.length_nil]
  omega
theorem uln_sz {a b p p1 : Nat} {ls r : List (List UInt8)} {m : Mk} (h : ulnP a b p ls = .ok (m, p1, r)) : m.tx.length + 1 + szL r ≤ szL ls := by
  unfold ulnP at h
  split at h
  · cases h
  · cases h
  · rename_i c t r0 hn
    have := nxt_szl hn
    have ht := szl_tail r0
    simp only [List.length_cons] at this
    split at h
    · split at h
      · cases h
        dsimp only
        omega
      · cases h
        simp only [List.length_append, List.length_cons, List.length_nil]
        omega
    · cases h
theorem urd_sz (n : Nat) : ∀ {a b p p1 : Nat} {ls r : List (List UInt8)} {l : List Mk}, urdP n a b p ls = .ok (l, p1, r) → l.length + txS l + szL r ≤ szL ls := by
  induction n with
  | zero =>
    intro a b p p1 ls r l h
    simp only [urdP] at h
    cases h
    simp only [txS, List.length_nil]
    omega
  | succ n ih =>
    intro a b p p1 ls r l h
    simp only [urdP] at h
    split at h
    · cases h
      simp only [txS, List.length_nil]
      omega
    · split at h
      · cases h
      · rename_i h1
        have a1 := uln_sz h1
        split at h
        · cases h
        · rename_i h2
          have b1 := ih h2
          cases h
          simp only [txS, List.length_cons]
          omega
theorem uhk_sz {k p p1 : Nat} {ls r : List (List UInt8)} {h : Hk} (hh : uhkP k p ls = .ok (h, p1, r)) : h.ls.length + txS h.ls + szL r + 1 ≤ szL ls := by
  unfold uhkP at hh
  split at hh
  · cases hh
  · rename_i s r0 hn
    have a1 := nxt_sz hn
    split at hh
    · cases hh
    · split at hh
      · cases hh
      · split at hh
        · cases hh
        · split at hh
          · cases hh
          · rename_i h1
            have b1 := urd_sz _ h1
            split at hh
            · cases hh
            · cases hh
              dsimp only
              omega
theorem uhs_sz {x : List UInt8} (f : Nat) : ∀ {k p p1 : Nat} {ls r : List (List UInt8)} {hs : List Hk}, uhsP x f k p ls = .ok (hs, p1, r) → hsS hs + 208 * szL r ≤ 208 * szL ls := by
  induction f with
  | zero => intro k p p1 ls r hs h; cases h
  | succ f ih =>
    intro k p p1 ls r hs h
    simp only [uhsP] at h
    split at h
    · cases h
    · rename_i h0 q1 r1 h1
      have a := uhk_sz h1
      split at h
      · split at h
        · cases h
        · rename_i l q2 r2 h2
          have b := ih h2
          cases h
          simp only [hsS]
          omega
      · cases h
        simp only [hsS]
        omega
theorem upsr_sz {x : List UInt8} (f : Nat) : ∀ {k p : Nat} {ls : List (List UInt8)} {L : List Pth}, upsP x f k p ls = .ok L → ptM L ≤ 208 * szL ls := by
  induction f with
  | zero =>
    intro k p ls L h
    simp only [upsP] at h
    cases h
    exact Nat.zero_le _
  | succ f ih =>
    intro k p ls L h
    simp only [upsP] at h
    split at h
    · cases h
      exact Nat.zero_le _
    · split at h
      · cases h
      · rename_i n1 r1 h1
        have a1 := nam_sz h1
        split at h
        · cases h
        · split at h
          · cases h
          · rename_i n2 r2 h2
            have b1 := nam_sz h2
            split at h
            · cases h
            · rename_i hs p3 r3 h3
              have c1 := uhs_sz _ h3
              split at h
              · cases h
              · rename_i l h4
                have d1 := ih h4
                cases h
                simp only [ptM]
                omega
theorem un_size {x t : List UInt8} {L : List Pth} (h : unT x t = .ok L) : ptM L ≤ 436207616 := by
  unfold unT at h
  split at h
  · cases h
  · rename_i hl
    have := upsr_sz _ h
    rw [szl_len, split_join] at this
    have h2 := split_len t
    omega
end Go.Proofs.YtgiojkhmkeocfaaGreatDoor

/- What is read by layers 15 and 16 are right hunks, and not too large. -/
set_option maxRecDepth 20000
namespace Go.Proofs.YtgiojkhmkeocfaaGreatDoor
open Go.RowKit

theorem facts_of {L : List Pth} {F : List Pfd} (hF : F.map (·.x) = L) (hi : ∀ f ∈ F, f.hs.map (·.1) = f.x.hs) (h1 : ∀ q ∈ L, q.hs ≠ [] ∧ ∀ h ∈ q.hs, chkH h = 0) (h2 : L.length ≤ 64) (h3 : ptM L ≤ 436207616) : F.length ≤ 64 ∧ ∀ f ∈ F, f.hs.length ≠ 0 ∧ (∀ y ∈ f.hs, chkH y.1 = 0) ∧ HOk f.hs := by
  refine ⟨by rw [← hF, List.length_map] at h2; exact h2, fun f hf => ?_⟩
  have hm : f.x ∈ L := by rw [← hF]; exact List.mem_map_of_mem hf
  obtain ⟨h4, h5⟩ := h1 _ hm
  have h6 := hi f hf
  refine ⟨fun e => h4 ?_, fun y hy => h5 _ ?_, hok_size ?_⟩
  · rw [← h6, List.eq_nil_of_length_eq_zero e]
    rfl
  · rw [← h6]
    exact List.mem_map_of_mem hy
  · have h7 := ptM_mem hm
    rw [h6]
    omega
theorem facts_nil {F : List Pfd} (hF : F.map (·.x) = []) : F.length ≤ 64 ∧ ∀ f ∈ F, f.hs.length ≠ 0 ∧ (∀ y ∈ f.hs, chkH y.1 = 0) ∧ HOk f.hs := by
  have : F = [] := by simpa using hF
  subst this
  exact ⟨by simp, fun f hf => by cases hf⟩
theorem un_facts {x t : List UInt8} {X : Except (Nat × Int) (List Pth)} (h : unT x t = X) {F : List Pfd} (hF : F.map (·.x) = okP X) (hi : ∀ f ∈ F, f.hs.map (·.1) = f.x.hs) : F.length ≤ 64 ∧ ∀ f ∈ F, f.hs.length ≠ 0 ∧ (∀ y ∈ f.hs, chkH y.1 = 0) ∧ HOk f.hs := by
  cases X with
  | error e => exact facts_nil hF
  | ok L => exact facts_of hF hi (fun q hq => ⟨((un_right h).1 q hq).ne, ((un_right h).1 q hq).gd⟩) (un_right h).2 (un_size h)
end Go.Proofs.YtgiojkhmkeocfaaGreatDoor

/- The code's Print of layer 16, walked: counts, names, the text of a hunk. -/
set_option maxRecDepth 20000
namespace Go.Proofs.YtgiojkhmkeocfaaGreatDoor
open Go.RowKit Go.Proofs.YtgiojkhmkeocfaaGreatDoor.Tx

/-- a builder that holds a text -/
def Bu (B b : Nat) (v : Value) (acc : List UInt8) (w : World) : Prop := Bld 77 5 B b v (Lib.byteCells acc) w
theorem Bu.low {B b : Nat} {v : Value} {acc : List UInt8} {w w' : World} (h : Bu B b v acc w) (hb : Below w.heap.size w w') : Bu B b v acc w' := Bld.kept h hb.block
end Go.Proofs.YtgiojkhmkeocfaaGreatDoor

/- The code's writeHunk of layer 16, walked. -/
set_option maxRecDepth 20000
namespace Go.Proofs.YtgiojkhmkeocfaaGreatDoor
open Go.RowKit Go.Proofs.YtgiojkhmkeocfaaGreatDoor.Tx

end Go.Proofs.YtgiojkhmkeocfaaGreatDoor

/- The code's Print of layer 16, walked. -/
set_option maxRecDepth 20000
namespace Go.Proofs.YtgiojkhmkeocfaaGreatDoor
open Go.RowKit Go.Proofs.YtgiojkhmkeocfaaGreatDoor.Tx

end Go.Proofs.YtgiojkhmkeocfaaGreatDoor

/- What works() of redlinelaw16 prints and reads; plain. -/
set_option maxRecDepth 20000
namespace Go.Proofs.YtgiojkhmkeocfaaGreatDoor
open Ln

end Go.Proofs.YtgiojkhmkeocfaaGreatDoor

/- The code's reader of layer 16, walked: a patch. -/
set_option maxRecDepth 20000
namespace Go.Proofs.YtgiojkhmkeocfaaGreatDoor
open Go.RowKit

/-- a further hunk is to be read -/
theorem ulef_go {P : List (Hk × Value)} {f p : Nat} {r : List (List UInt8)} (h : (decide (P = []) || pkU atC r) = true) : lefU P (f + 1) p r = match uhkP P.length p r with
    | .error e => .error e
    | .ok (x, p1, r1) => thenX (P.map (·.1) ++ [x]) (conU f (P.length + 1) p1 r1) := by
  unfold lefU
  by_cases hP : P = []
  · rw [if_pos hP, uhs_step, hP]
    rfl
  · rw [if_neg hP]
    have hk : pkU atC r = true := by simpa [hP] using h
    unfold conU
    rw [if_pos hk, uhs_step]
    rfl
theorem ulef_no {P : List (Hk × Value)} {f p : Nat} {r : List (List UInt8)} (h : (decide (P = []) || pkU atC r) = false) : lefU P f p r = .ok (P.map (·.1), p, r) := by
  rw [Bool.or_eq_false_iff, decide_eq_false_iff_not] at h
  unfold lefU conU
  rw [if_neg h.1, if_neg (by rw [h.2]; decide)]
  simp [thenX]
theorem ulef_more {P : List (Hk × Value)} {f p : Nat} {r : List (List UInt8)} (x : Hk) (y : Value) : lefU (P ++ [(x, y)]) f p r = thenX (P.map (·.1) ++ [x]) (conU f (P.length + 1) p r) := by
  unfold lefU
  rw [if_neg (by simp), List.map_append, List.length_append]
  rfl
/-- what a patch leaves behind -/
def PtU (R : Nat) (vL : Value) (X : Except (Nat × Int) (Pth × Nat × List (List UInt8))) (w : World) (e : Ending) (w' : World) : Prop :=
  match X with
  | .error (a, z) => Thr (a : Int) z e w' ∧ w.grownBy w' (some R)
  | .ok (x, p1, _) => ∃ hv P, e = .returned (.agg #[.string ⟨x.old.toArray⟩, .string ⟨x.new.toArray⟩, hv]) ∧ x.hs = P.map (·.1) ∧ w'.ownsRow w.heap.size 59 5 hv P.length (hkcells P) ∧ (∀ y ∈ P, w'.ownsRow w.heap.size 103 2 y.2 y.1.ls.length (mkcells y.1.ls)) ∧ Uk w' R vL (p1 : Int) ∧ w.grownBy w' (some R)
theorem uthree_fin {w wb u : World} {R S : Nat} {vL hv : Value} {n1 n2 : List UInt8} {P : List (Hk × Value)} {p : Nat} (h : Pzu wb R S vL n1 n2 hv P p u) (hG : ∀ u, wb.grownBy u (some R) → w.grownBy u (some R)) (hZ : wb.heap[w.heap.size]? = some zpO ∧ w.heap.size < wb.heap.size ∧ w.heap.size ≠ R) :
    (three u w.heap.size n1 n2 hv).heap[w.heap.size]? = some (.cells #[.string ⟨n1.toArray⟩, .string ⟨n2.toArray⟩, hv] 55) ∧ (three u w.heap.size n1 n2 hv).ownsRow w.heap.size 59 5 hv P.length (hkcells P) ∧ (∀ y ∈ P, (three u w.heap.size n1 n2 hv).ownsRow w.heap.size 103 2 y.2 y.1.ls.length (mkcells y.1.ls)) ∧ Uk (three u w.heap.size n1 n2 hv) R vL (p : Int) ∧ w.grownBy (three u w.heap.size n1 n2 hv) (some R) := by
  obtain ⟨h1, h2, h3⟩ := hZ
  have hb : u.heap[w.heap.size]? = some zpO := (h.gr.block _ h2 (fun e => h3 (Option.some.inj e))).trans h1
  have hg : u.grownBy (three u w.heap.size n1 n2 hv) (some w.heap.size) := grown_two (grown_two (grown_set u _ 0 _) (grown_set _ _ 1 _)) (grown_set _ _ 2 _)
  refine ⟨?_, own_base (owns_fr h.own hg h2) (by omega), fun y hy => own_base (owns_fr (h.ins y hy) hg h2) (by omega), h.ck.keep hg (fun e => h3 (Option.some.inj e).symm), ?_⟩
  · have s0 := heap_setCell_same u w.heap.size 0 _ _ (.string ⟨n1.toArray⟩) hb
    have s1 := heap_setCell_same _ w.heap.size 1 _ _ (.string ⟨n2.toArray⟩) s0
    exact heap_setCell_same _ w.heap.size 2 _ _ hv s1
  · exact grown_new (grown_new (grown_new (hG _ h.gr) (Nat.le_refl _) 0 _) (Nat.le_refl _) 1 _) (Nat.le_refl _) 2 _
set_option maxHeartbeats 16000000 in
set_option maxRecDepth 40000 in
theorem upatch_f {R : Nat} {L : List (List UInt8)} {lo : Option Addr} {lc : Nat} {p k : Nat} (hk : k ≤ 64) (w : World) (q : Uk w R (.slice lo L.length lc) p) (HL : Hid (∀ u, w.grownBy u (some R) → HS u (.slice lo L.length lc) L)) (HPl : Hid (Plain L)) (hp : p ≤ L.length) (hLl : L.length ≤ 137438953472) (HSl : Hid (∀ s ∈ L, s.length ≤ 1099511627)) (hmx : Mxl w) (hR1 : 1 < R)
    (X : Except (Nat × Int) (Pth × Nat × List (List UInt8))) (HX : Hid (patU k p (L.drop p) = X)) :
    Calls Tryz.prog 69 #[.pointer (some ⟨R, 0, none⟩), .int .i64 (k : Int)] w fun e w' => PtU R (.slice lo L.length lc) X w e w' := by
  have HG : Hid (∀ u, (w.alloc zpO).grownBy u (some R) → w.grownBy u (some R)) := fun u hu => grown_base _ hu
  have hRl := q.lt
  have HX2 := HX.out
  have hRl1 : R < (w.alloc zpO).heap.size := (by simp; omega)
  have HZ : Hid ((w.alloc zpO).heap[w.heap.size]? = some zpO ∧ w.heap.size < (w.alloc zpO).heap.size ∧ w.heap.size ≠ R) := ⟨heap_alloc_new w _, by simp, by omega⟩
  have hP0 : Pzu (w.alloc zpO) R (w.heap.size + 1) (.slice lo L.length lc) [] [] (.slice none 0 0) [] p ((w.alloc zpO).alloc zpO) := (by
    have hsz : (w.alloc zpO).heap.size = w.heap.size + 1 := by simp
    refine ⟨World.grownBy_alloc _ _ _, ?_, hnil_row _ _ _ _, fun x hx => (by cases hx), (q.low ((Below.refl _ w).alloc (Nat.le_refl _) _)).low ((Below.refl _ _).alloc (Nat.le_refl _) _), by omega, hRl1⟩
    rw [← hsz]
    exact heap_alloc_new _ _)
  have hW : (w.alloc (.cells #[.string ⟨#[]⟩, .string ⟨#[]⟩, .slice none 0 0] 55)).alloc (.cells #[.string ⟨#[]⟩, .string ⟨#[]⟩, .slice none 0 0] 55) = (w.alloc zpO).alloc zpO := rfl
  obtain ⟨Y, hY⟩ : ∃ Y, namP [45, 45, 45, 32] p (L.drop p) = Y := ⟨_, rfl⟩
  unfold patU at HX2
  rw [hY] at HX2
  have hn1 := unm_f [45, 45, 45, 32] rfl _ hP0.ck (HL.out _ (HG.out _ hP0.gr)) hp (by omega) (fun s h => by have := HSl.out s h; omega) Y hY
  clear HX q
  generalize hwb : w.alloc zpO = wb at *
  clear hwb
  go_enter Tryz.func69, Tryz.ntmps69
  go_wp2_with fail
  clear hW
  generalize w.heap.size + 1 = S at hP0 ⊢
  generalize wb.alloc zpO = w0 at hP0 hn1 ⊢
  refine hn1.mono ?_
  clear hn1
  cases Y with
  | error z =>
    obtain ⟨a, z⟩ := z
    rintro e w1 ⟨⟨g, rfl, hg⟩, hgr⟩
    have hXe : X = .error (a, z) := HX2.symm
    subst hXe
    go_wp2
    exact ⟨rfl, ⟨_, rfl, hg⟩, HG.out _ (grown_two hP0.gr hgr)⟩
  | ok z =>
    obtain ⟨n1, r1⟩ := z
    rintro e w1 ⟨rfl, hB1⟩
    obtain ⟨rfl, hpl⟩ := nam_drop hY
    dsimp only at HX2
    have hP1 := hP0.keep hB1
    clear hY hP0 hB1
    obtain ⟨c0, c1, c2⟩ := hP1.cells
    have f0 := hP1.frozen 0
    have hP2 := hP1.put 0 (.string ⟨n1.toArray⟩) (m1 := n1) (m2 := []) (hv' := .slice none 0 0) rfl hP1.own
    clear hP1
    by_cases h64 : 64 ≤ k
    · rw [if_pos h64] at HX2
      have hXe := HX2.symm
      subst hXe
      have e1 : ((k : Int) == 64) = true := beq_iff_eq.2 (by omega)
      go_wp2_with fail
      refine (urefuse_f 9 _ hP2.ck (by omega)).mono ?_
      rintro e w2 ⟨⟨g, rfl, hg⟩, hgr⟩
      go_wp2
      exact ⟨rfl, ⟨_, rfl, by simpa using hg⟩, HG.out _ (grown_two hP2.gr hgr)⟩
    · rw [if_neg h64] at HX2
      have e1 : ((k : Int) == 64) = false := beq_eq_false_iff_ne.2 (by omega)
      go_upto_region 3 with fail
      clear c0 c1 c2 f0
      generalize w1.setCell ⟨S, 0, none⟩ (.string ⟨n1.toArray⟩) = w2 at hP2 ⊢
      obtain ⟨d0, d1⟩ := hP2.ck.cells
      have f1 := hP2.ck.frozen 1
      have hP3 := hP2.next
      obtain ⟨Y2, hY2⟩ : ∃ Y, namP [43, 43, 43, 32] (p + 1) (L.drop (p + 1)) = Y := ⟨_, rfl⟩
      rw [hY2] at HX2
      have hn2 := unm_f [43, 43, 43, 32] rfl _ hP3.ck (HL.out _ (HG.out _ hP3.gr)) (by omega) (by omega) (fun s h => by have := HSl.out s h; omega) Y2 hY2
      go_wp2_with fail
      refine hn2.mono ?_
      clear hn2 hP2 d0 d1 f1
      cases Y2 with
      | error z =>
        obtain ⟨a, z⟩ := z
        rintro e w3 ⟨⟨g, rfl, hg⟩, hgr⟩
        have hXe : X = .error (a, z) := HX2.symm
        subst hXe
        go_wp2
        exact ⟨rfl, ⟨_, rfl, hg⟩, HG.out _ (grown_two hP3.gr hgr)⟩
      | ok z =>
        obtain ⟨n2, r2⟩ := z
        rintro e w3 ⟨rfl, hB3⟩
        obtain ⟨rfl, hpl2⟩ := nam_drop hY2
        dsimp only at HX2
        have hP4 := hP3.keep hB3
        clear hY2 hP3 hB3
        obtain ⟨c0, c1, c2⟩ := hP4.cells
        have f1 := hP4.frozen 1
        have hP5 := hP4.put 1 (.string ⟨n2.toArray⟩) (m1 := n1) (m2 := n2) (hv' := .slice none 0 0) rfl hP4.own
        clear hP4
        go_upto_region 7 with fail
        clear c0 c1 c2 f1
        generalize w3.setCell ⟨S, 1, none⟩ (.string ⟨n2.toArray⟩) = w4 at hP5 ⊢
        obtain ⟨d0, d1⟩ := hP5.ck.cells
        have f1 := hP5.ck.frozen 1
        have hP6 := hP5.next
        clear hP5
        obtain ⟨Y3, hY3⟩ : ∃ Y, uhsP atC ((L.drop (p + 1 + 1)).length + 1) 0 (p + 1 + 1) (L.drop (p + 1 + 1)) = Y := ⟨_, rfl⟩
        have HX3 : Hid (mkP n1 n2 Y3 = X) := (by show _ = _; rw [← hY3]; exact HX2)
        have HY0 : Hid (lefU [] ((L.drop (p + 1 + 1)).length + 1) (p + 1 + 1) (L.drop (p + 1 + 1)) = Y3) := (by show _ = _; unfold lefU; rw [if_pos rfl, List.map_nil, thenX_nil]; exact hY3)
        clear hY3 HX2
        go_wp2
        rw [show (((p + 1 : Nat) : Int) + 1) = (p : Int) + 1 + 1 by omega] at hP6
        generalize w4.setCell ⟨R, 1, none⟩ (.int .i64 ((p : Int) + 1 + 1)) = w5 at hP6 ⊢
        clear d0 d1 f1
        go_loopw [] (fun wr => ∃ (hv : Value) (P : List (Hk × Value)) (p' f : Nat), (∃ o c, hv = .slice o P.length c) ∧ Pzu wb R S (.slice lo L.length lc) n1 n2 hv P p' wr ∧ p' ≤ L.length ∧ P.length ≤ 4096 ∧ Hid ((L.drop p').length + 1 ≤ f) ∧ Hid (lefU P f p' (L.drop p') = Y3)) (fun wr => L.length - ukN wr R)
        case atStart => exact ⟨_, [], p + 1 + 1, _, ⟨none, 0, rfl⟩, hP6, by omega, Nat.zero_le _, Nat.le_refl _, HY0⟩
        case round =>
        clear hP6 HY0
        obtain ⟨hv, P, p', f, ⟨ho, hc, rfl⟩, hZ, hp', hPl, HF, HI⟩ := hrel
        obtain ⟨c0, c1, c2⟩ := hZ.cells
        have hLr := HL.out _ (HG.out _ hZ.gr)
        have HK : Hid (ukN wr R = p') := ukN_of hZ.ck
        obtain ⟨gd, hgd⟩ : ∃ g, (decide (P = []) || pkU atC (L.drop p')) = g := ⟨_, rfl⟩
        go_upto_region 8 with fail
        go_cut [37] from 30 to 47 (fun cv wz => cv = .bool gd ∧ Pzu wb R S (.slice lo L.length lc) n1 n2 (.slice ho P.length hc) P p' wz)
        case first =>
          by_cases hP0 : P = []
          · have z1 : ((P.length : Int) == 0) = true := (by rw [hP0]; rfl)
            have HE : Hid (true = gd) := (by rw [decide_eq_true hP0, Bool.true_or] at hgd; exact hgd)
            clear hP0 hgd
            go_wp2
            go_meet
            case rel => exact ⟨by rw [← HE.out], hZ⟩
          · have z1 : ((P.length : Int) == 0) = false := (by rw [beq_eq_false_iff_ne]; intro e; exact hP0 (List.eq_nil_of_length_eq_zero (by omega)))
            have hat := uatHunk_f wr hZ.ck hLr hp' (by omega) gd (show Hid (pkU atC (L.drop p') = gd) by show _ = _; rw [← hgd, decide_eq_false hP0, Bool.false_or])
            clear hP0 hgd
            go_wp2_with fail
            refine hat.mono ?_
            rintro e w6 ⟨rfl, nn, rfl⟩
            have hZ2 := hZ.keep (below_drewN (Below.refl _ _) nn)
            go_wp2
            go_meet
            case rel => exact ⟨rfl, hZ2⟩
        case rest =>
        obtain ⟨rfl, hZ2⟩ := hcut
        clear hZ c0 c1 c2 hLr
        obtain ⟨c0, c1, c2⟩ := hZ2.cells
        have hLr := HL.out _ (HG.out _ hZ2.gr)
        cases gd with
        | false =>
          have hYe : Y3 = .ok (P.map (·.1), p', L.drop p') := (by rw [← HI.out]; exact ulef_no hgd)
          have hXe : X = .ok (⟨n1, n2, P.map (·.1)⟩, p', L.drop p') := (by rw [← HX3.out, hYe]; rfl)
          subst hXe
          clear hYe hgd HI HX3 hLr
          obtain ⟨y0, y1, y2, yf⟩ := three_cells hZ2.gr HZ.out _ rfl
          obtain ⟨fh, fo, fi, fq, fg⟩ := uthree_fin hZ2 HG.out HZ.out
          have yf0 := yf 0
          have yf1 := yf 1
          have yf2 := yf 2
          clear yf hZ2
          go_wp2
          exact bodyPost_ret (v := .agg #[.string ⟨n1.toArray⟩, .string ⟨n2.toArray⟩, .slice ho P.length hc]) (results_cell_row rfl _ _ w.heap.size 55 #[.string ⟨n1.toArray⟩, .string ⟨n2.toArray⟩, .slice ho P.length hc] (0, 0) _ rfl fh Tryz.underlying55 rfl (by kernel_rfl)) rfl ⟨_, P, rfl, rfl, fo, fi, fq, fg⟩
        | true =>
          have hf0 := HF.out
          obtain ⟨f', rfl⟩ : ∃ f', f = f' + 1 := ⟨f - 1, by omega⟩
          have hgo := ulef_go (f := f') (p := p') hgd
          rw [HI.out] at hgo
          obtain ⟨Yh, hYh⟩ : ∃ Y, uhkP P.length p' (L.drop p') = Y := ⟨_, rfl⟩
          rw [hYh] at hgo
          have hZd := hZ2.keep (Below.drew (Below.refl _ _))
          have hch := uhunk_f hPl _ hZd.ck (fun u hu => HL.out u (HG.out _ (grown_two hZd.gr hu))) HPl hp' hLl HSl (hmx.keep (HG.out _ hZd.gr) hR1) Yh hYh
          have HYe : Hid (∀ e, Yh = .error e → X = .error e) := (by
            intro e he
            rw [← HX3.out, hgo, he]
            rfl)
          have HN : Hid (∀ h p2 r, Yh = .ok (h, p2, r) → p2 ≤ L.length ∧ p' < p2 ∧ Hid ((L.drop p2).length + 1 ≤ f') ∧ P.length < 4096 ∧ r = L.drop p2) := (by
            intro h p2 r he
            obtain ⟨b1, b2, b3, b4⟩ := uhk_drop HPl.out (hYh.trans he)
            have := HF.out
            rw [List.length_drop] at this
            exact ⟨b3, b2, (by show _ ≤ _; rw [List.length_drop]; omega), b4, b1⟩)
          have HN2 : Hid (∀ h p2 r y, Yh = .ok (h, p2, r) → Hid (lefU (P ++ [(h, y)]) f' p2 (L.drop p2) = Y3)) := (by
            intro h p2 r y he
            show _ = _
            rw [ulef_more, ← (HN.out h p2 r he).2.2.2.2, hgo, he])
          obtain ⟨Pn, hPnd⟩ : ∃ Pn : List PanicEntry → World → Prop, (fun c u => ∃ (g a : Nat) (z : Int), c = [{ v := .iface 86 (.pointer (some ⟨g, 0, none⟩)), recovered := false }] ∧ u.heap[g]? = some (fltO (a : Int) z) ∧ X = .error (a, z) ∧ w.grownBy u (some R)) = Pn := ⟨_, rfl⟩
          obtain ⟨Rr, hRr⟩ : ∃ Rr : Value → World → Prop, (fun v u => ∃ h p2 r vo vc, Yh = .ok (h, p2, r) ∧ v = hkV h (.slice vo h.ls.length vc) ∧ Pzu wb R S (.slice lo L.length lc) n1 n2 (.slice ho P.length hc) P p2 u ∧ u.ownsRow wb.heap.size 103 2 (.slice vo h.ls.length vc) h.ls.length (mkcells h.ls)) = Rr := ⟨_, rfl⟩
          have hcall : Calls Tryz.prog 117 (#[.pointer (some ⟨R, 0, none⟩), .int .i64 (P.length : Int)] ++ #[]) wc.drew fun e w' => (∃ v, e = .returned v ∧ True ∧ Rr v w') ∨ (∃ c, e = .panicked c ∧ Pn c w') := (by
            refine hch.mono ?_
            intro e w' hq
            rw [← hPnd, ← hRr]
            cases Yh with
            | error z =>
              obtain ⟨a, z⟩ := z
              obtain ⟨⟨g, rfl, hg⟩, hgr⟩ := hq
              exact .inr ⟨_, rfl, g, a, z, rfl, hg, HYe.out _ rfl, HG.out _ (grown_two hZd.gr hgr)⟩
            | ok z =>
              obtain ⟨h, p2, r⟩ := z
              obtain ⟨v', rfl, hown, q, hgr⟩ := hq
              obtain ⟨vo, vc, rfl⟩ := (holds_of hown).form
              exact .inl ⟨_, rfl, trivial, h, p2, r, vo, vc, rfl, rfl, hZd.call hgr q, own_base hown hZd.gr.size⟩)
          have HRr : Hid (_ = Rr) := hRr
          have HPd : Hid (_ = Pn) := hPnd
          clear hRr hPnd hch hgo hYh HI hgd hLr
          go_upto_region 9 with fail
          clear c0 c1 c2
          refine wp_region_held_drew (S := fun _ => True) (by kernel_rfl) trivial (fun _ => ?_)
          generalize wc.drew = wd at hZd hcall ⊢
          have c2d := hZd.cells.2.2
          refine go_take 0 38 _ (.pointer (some ⟨S, 2, none⟩)) rfl (by kernel_rfl) (by kernel_rfl) (by kernel_rfl) (by kernel_rfl) (fun _ _ _ h => h) (Or.inl ⟨by kernel_rfl, fun u hu => by kernel_rfl⟩) trivial ?_
          simp only [Act.put, List.setIfInBounds_toArray, List.set_cons_zero, List.set_cons_succ]
          refine go_take 2 40 _ (.pointer (some ⟨R, 0, none⟩)) rfl (by kernel_rfl) (by kernel_rfl) (by kernel_rfl) (by kernel_rfl) (fun _ _ _ h => h) (Or.inl ⟨by kernel_rfl, fun u hu => by kernel_rfl⟩) trivial ?_
          simp only [Act.put, List.setIfInBounds_toArray, List.set_cons_zero, List.set_cons_succ]
          refine go_take 3 41 _ (.pointer (some ⟨S, 2, none⟩)) rfl (by kernel_rfl) (by kernel_rfl) (by kernel_rfl) (by kernel_rfl) (fun _ _ _ h => h) (Or.inl ⟨by kernel_rfl, fun u hu => by kernel_rfl⟩) trivial ?_
          simp only [Act.put, List.setIfInBounds_toArray, List.set_cons_zero, List.set_cons_succ]
          refine go_two 1 39 _ 4 42 _ rfl (by kernel_rfl) rfl (by kernel_rfl) (by kernel_rfl) (by kernel_rfl) (by kernel_rfl) (.slice ho P.length hc) wd (load_hksR c2d (.tmp 38) (by kernel_rfl) (by kernel_rfl)) trivial (.slice ho P.length hc) wd (load_hksR c2d (.tmp 41) (by kernel_rfl) (by kernel_rfl)) trivial ?_ ?_
          · simp only [Act.put, List.setIfInBounds_toArray, List.set_cons_zero, List.set_cons_succ]
            refine go_val 4 42 _ rfl (by kernel_rfl) (by kernel_rfl) (by kernel_rfl) (.slice ho P.length hc) wd (load_hksR c2d (.tmp 41) (by kernel_rfl) (by kernel_rfl)) trivial ?_
            simp only [Act.put, List.setIfInBounds_toArray, List.set_cons_zero, List.set_cons_succ]
            refine go_take 5 43 _ (.int .i64 (P.length : Int)) rfl (by kernel_rfl) (by kernel_rfl) (by kernel_rfl) (by kernel_rfl) (fun _ _ _ h => h) (Or.inl ⟨by kernel_rfl, fun u hu => by kernel_rfl⟩) trivial ?_
            simp only [Act.put, List.setIfInBounds_toArray, List.set_cons_zero, List.set_cons_succ]
            refine go_callR 6 44 _ rfl (by kernel_rfl) (by kernel_rfl) (by kernel_rfl) 117 (.func 117) #[.tmp 40, .tmp 43] #[172, 3] (by kernel_rfl) #[] (by kernel_rfl) #[.pointer (some ⟨R, 0, none⟩), .int .i64 (P.length : Int)] (by kernel_rfl) (enters_of Tryz.func117 (by kernel_rfl) rfl) Rr Pn (fun c u h => by rw [← HPd.out] at h; obtain ⟨g, a, z, rfl, hg, hXe, hgr⟩ := h; subst hXe; exact ⟨rfl, ⟨_, rfl, hg⟩, hgr⟩) ?_ ?_
            · exact hcall
            intro v0 u1 _ hq
            rw [← HRr.out] at hq
            obtain ⟨h, p2, r, vo, vc, hk2, rfl, hR1, hown1⟩ := hq
            have c1u := hR1.cells.2.2
            have hRA := hR1.keep ((Below.refl _ u1).alloc (Nat.le_refl _) (hkO h (.slice vo h.ls.length vc)))
            have c2u := hRA.cells.2.2
            simp only [Act.put, List.setIfInBounds_toArray, List.set_cons_zero, List.set_cons_succ]
            refine go_val 7 45 _ rfl (by kernel_rfl) (by kernel_rfl) (by kernel_rfl) (.slice (some ⟨u1.heap.size, 0, none⟩) 1 1) (u1.alloc (hkO h (.slice vo h.ls.length vc))) (by kernel_rfl) trivial ?_
            simp only [Act.put, List.setIfInBounds_toArray, List.set_cons_zero, List.set_cons_succ]
            have hlt2 := HN.out h p2 r hk2
            have hownA := hown1.alloc (hkO h (.slice vo h.ls.length vc))
            obtain ⟨v3, u3, hr3, hown3, hg3, _⟩ := run_append_w (u1.alloc (hkO h (.slice vo h.ls.length vc))) 34 59 34 (.agg #[.int .i64 0, .int .i64 0, .int .i64 0, .int .i64 0, .slice none 0 0]) 5 56 Tryz.underlying34 infoHk rfl (by decide) (by decide) wb.heap.size _ _ _ hRA.own _ 1 (hkC h (.slice vo h.ls.length vc)) (one_row u1 h (.slice vo h.ls.length vc)) rfl (fun u hu => by simp [hkC] at hu; rcases hu with rfl | rfl | rfl | rfl | rfl <;> rfl) (by omega) hRA.gr.size
            have hR3 := hRA.more hownA hg3 hown3
            obtain ⟨o3, k3, rfl⟩ := (holds_of hown3).form
            refine go_val 8 46 _ rfl (by kernel_rfl) (by kernel_rfl) (by kernel_rfl) (.slice o3 (P.length + 1) k3) u3 (exec_app (.tmp 39) (.tmp 45) (by kernel_rfl) (by kernel_rfl) (by kernel_rfl) hr3) trivial ?_
            simp only [Act.put, List.setIfInBounds_toArray, List.set_cons_zero, List.set_cons_succ]
            refine go_take 9 47 _ (.pointer (some ⟨S, 2, none⟩)) rfl (by kernel_rfl) (by kernel_rfl) (by kernel_rfl) (by kernel_rfl) (fun _ _ _ h => h) (Or.inl ⟨by kernel_rfl, fun u hu => by kernel_rfl⟩) trivial ?_
            simp only [Act.put, List.setIfInBounds_toArray, List.set_cons_zero, List.set_cons_succ]
            refine go_skip 10 _ rfl (by kernel_rfl) (by kernel_rfl) (by kernel_rfl) (u3.setCell ⟨S, 2, none⟩ (.slice o3 (P.length + 1) k3)) (exec_storeHR hR3.2.1 hR3.2.2 (.tmp 47) (.tmp 46) (by kernel_rfl) (by kernel_rfl) (by kernel_rfl)) trivial ?_
            refine wpAnyH_done (by kernel_rfl) ?_ _
            have hR4 := hR3.1
            go_wp2
            refine ⟨⟨_, P ++ [(h, .slice vo h.ls.length vc)], p2, f', ⟨o3, k3, by rw [List.length_append]; rfl⟩, hR4, hlt2.1, by rw [List.length_append]; simp; omega, hlt2.2.2.1, HN2.out h p2 r _ hk2⟩, ?_⟩
            rw [ukN_of hR4.ck, HK.out]
            omega

          · simp only [Act.put, List.setIfInBounds_toArray, List.set_cons_zero, List.set_cons_succ]
            refine go_take 5 43 _ (.int .i64 (P.length : Int)) rfl (by kernel_rfl) (by kernel_rfl) (by kernel_rfl) (by kernel_rfl) (fun _ _ _ h => h) (Or.inl ⟨by kernel_rfl, fun u hu => by kernel_rfl⟩) trivial ?_
            simp only [Act.put, List.setIfInBounds_toArray, List.set_cons_zero, List.set_cons_succ]
            refine go_valCallR 1 39 _ 6 44 _ rfl (by kernel_rfl) rfl (by kernel_rfl) (by kernel_rfl) (by kernel_rfl) (by kernel_rfl) (.slice ho P.length hc) wd (load_hksR c2d (.tmp 38) (by kernel_rfl) (by kernel_rfl)) trivial 117 (.func 117) #[.tmp 40, .tmp 43] #[172, 3] (by kernel_rfl) #[] (by kernel_rfl) #[.pointer (some ⟨R, 0, none⟩), .int .i64 (P.length : Int)] (by kernel_rfl) (enters_of Tryz.func117 (by kernel_rfl) rfl) Rr Pn (fun c u h => by rw [← HPd.out] at h; obtain ⟨g, a, z, rfl, hg, hXe, hgr⟩ := h; subst hXe; exact ⟨rfl, ⟨_, rfl, hg⟩, hgr⟩) ?_ ?_ ?_
            · exact hcall
            · simp only [Act.put, List.setIfInBounds_toArray, List.set_cons_zero, List.set_cons_succ]
              refine go_callR 6 44 _ rfl (by kernel_rfl) (by kernel_rfl) (by kernel_rfl) 117 (.func 117) #[.tmp 40, .tmp 43] #[172, 3] (by kernel_rfl) #[] (by kernel_rfl) #[.pointer (some ⟨R, 0, none⟩), .int .i64 (P.length : Int)] (by kernel_rfl) (enters_of Tryz.func117 (by kernel_rfl) rfl) Rr Pn (fun c u h => by rw [← HPd.out] at h; obtain ⟨g, a, z, rfl, hg, hXe, hgr⟩ := h; subst hXe; exact ⟨rfl, ⟨_, rfl, hg⟩, hgr⟩) ?_ ?_
              · exact hcall
              intro v0 u1 _ hq
              rw [← HRr.out] at hq
              obtain ⟨h, p2, r, vo, vc, hk2, rfl, hR1, hown1⟩ := hq
              have c1u := hR1.cells.2.2
              have hRA := hR1.keep ((Below.refl _ u1).alloc (Nat.le_refl _) (hkO h (.slice vo h.ls.length vc)))
              have c2u := hRA.cells.2.2
              simp only [Act.put, List.setIfInBounds_toArray, List.set_cons_zero, List.set_cons_succ]
              refine go_val 7 45 _ rfl (by kernel_rfl) (by kernel_rfl) (by kernel_rfl) (.slice (some ⟨u1.heap.size, 0, none⟩) 1 1) (u1.alloc (hkO h (.slice vo h.ls.length vc))) (by kernel_rfl) trivial ?_
              simp only [Act.put, List.setIfInBounds_toArray, List.set_cons_zero, List.set_cons_succ]
              have hlt2 := HN.out h p2 r hk2
              have hownA := hown1.alloc (hkO h (.slice vo h.ls.length vc))
              obtain ⟨v3, u3, hr3, hown3, hg3, _⟩ := run_append_w (u1.alloc (hkO h (.slice vo h.ls.length vc))) 34 59 34 (.agg #[.int .i64 0, .int .i64 0, .int .i64 0, .int .i64 0, .slice none 0 0]) 5 56 Tryz.underlying34 infoHk rfl (by decide) (by decide) wb.heap.size _ _ _ hRA.own _ 1 (hkC h (.slice vo h.ls.length vc)) (one_row u1 h (.slice vo h.ls.length vc)) rfl (fun u hu => by simp [hkC] at hu; rcases hu with rfl | rfl | rfl | rfl | rfl <;> rfl) (by omega) hRA.gr.size
              have hR3 := hRA.more hownA hg3 hown3
              obtain ⟨o3, k3, rfl⟩ := (holds_of hown3).form
              refine go_val 8 46 _ rfl (by kernel_rfl) (by kernel_rfl) (by kernel_rfl) (.slice o3 (P.length + 1) k3) u3 (exec_app (.tmp 39) (.tmp 45) (by kernel_rfl) (by kernel_rfl) (by kernel_rfl) hr3) trivial ?_
              simp only [Act.put, List.setIfInBounds_toArray, List.set_cons_zero, List.set_cons_succ]
              refine go_take 9 47 _ (.pointer (some ⟨S, 2, none⟩)) rfl (by kernel_rfl) (by kernel_rfl) (by kernel_rfl) (by kernel_rfl) (fun _ _ _ h => h) (Or.inl ⟨by kernel_rfl, fun u hu => by kernel_rfl⟩) trivial ?_
              simp only [Act.put, List.setIfInBounds_toArray, List.set_cons_zero, List.set_cons_succ]
              refine go_skip 10 _ rfl (by kernel_rfl) (by kernel_rfl) (by kernel_rfl) (u3.setCell ⟨S, 2, none⟩ (.slice o3 (P.length + 1) k3)) (exec_storeHR hR3.2.1 hR3.2.2 (.tmp 47) (.tmp 46) (by kernel_rfl) (by kernel_rfl) (by kernel_rfl)) trivial ?_
              refine wpAnyH_done (by kernel_rfl) ?_ _
              have hR4 := hR3.1
              go_wp2
              refine ⟨⟨_, P ++ [(h, .slice vo h.ls.length vc)], p2, f', ⟨o3, k3, by rw [List.length_append]; rfl⟩, hR4, hlt2.1, by rw [List.length_append]; simp; omega, hlt2.2.2.1, HN2.out h p2 r _ hk2⟩, ?_⟩
              rw [ukN_of hR4.ck, HK.out]
              omega

            · intro v0 u1 _ hq
              rw [← HRr.out] at hq
              obtain ⟨h, p2, r, vo, vc, hk2, rfl, hR1, hown1⟩ := hq
              have c1u := hR1.cells.2.2
              have hRA := hR1.keep ((Below.refl _ u1).alloc (Nat.le_refl _) (hkO h (.slice vo h.ls.length vc)))
              have c2u := hRA.cells.2.2
              simp only [Act.put, List.setIfInBounds_toArray, List.set_cons_zero, List.set_cons_succ]
              refine go_two 1 39 _ 7 45 _ rfl (by kernel_rfl) rfl (by kernel_rfl) (by kernel_rfl) (by kernel_rfl) (by kernel_rfl) (.slice ho P.length hc) u1 (load_hksR c1u (.tmp 38) (by kernel_rfl) (by kernel_rfl)) trivial (.slice (some ⟨u1.heap.size, 0, none⟩) 1 1) (u1.alloc (hkO h (.slice vo h.ls.length vc))) (by kernel_rfl) trivial ?_ ?_
              · simp only [Act.put, List.setIfInBounds_toArray, List.set_cons_zero, List.set_cons_succ]
                refine go_val 7 45 _ rfl (by kernel_rfl) (by kernel_rfl) (by kernel_rfl) (.slice (some ⟨u1.heap.size, 0, none⟩) 1 1) (u1.alloc (hkO h (.slice vo h.ls.length vc))) (by kernel_rfl) trivial ?_
                simp only [Act.put, List.setIfInBounds_toArray, List.set_cons_zero, List.set_cons_succ]
                have hlt2 := HN.out h p2 r hk2
                have hownA := hown1.alloc (hkO h (.slice vo h.ls.length vc))
                obtain ⟨v3, u3, hr3, hown3, hg3, _⟩ := run_append_w (u1.alloc (hkO h (.slice vo h.ls.length vc))) 34 59 34 (.agg #[.int .i64 0, .int .i64 0, .int .i64 0, .int .i64 0, .slice none 0 0]) 5 56 Tryz.underlying34 infoHk rfl (by decide) (by decide) wb.heap.size _ _ _ hRA.own _ 1 (hkC h (.slice vo h.ls.length vc)) (one_row u1 h (.slice vo h.ls.length vc)) rfl (fun u hu => by simp [hkC] at hu; rcases hu with rfl | rfl | rfl | rfl | rfl <;> rfl) (by omega) hRA.gr.size
                have hR3 := hRA.more hownA hg3 hown3
                obtain ⟨o3, k3, rfl⟩ := (holds_of hown3).form
                refine go_val 8 46 _ rfl (by kernel_rfl) (by kernel_rfl) (by kernel_rfl) (.slice o3 (P.length + 1) k3) u3 (exec_app (.tmp 39) (.tmp 45) (by kernel_rfl) (by kernel_rfl) (by kernel_rfl) hr3) trivial ?_
                simp only [Act.put, List.setIfInBounds_toArray, List.set_cons_zero, List.set_cons_succ]
                refine go_take 9 47 _ (.pointer (some ⟨S, 2, none⟩)) rfl (by kernel_rfl) (by kernel_rfl) (by kernel_rfl) (by kernel_rfl) (fun _ _ _ h => h) (Or.inl ⟨by kernel_rfl, fun u hu => by kernel_rfl⟩) trivial ?_
                simp only [Act.put, List.setIfInBounds_toArray, List.set_cons_zero, List.set_cons_succ]
                refine go_skip 10 _ rfl (by kernel_rfl) (by kernel_rfl) (by kernel_rfl) (u3.setCell ⟨S, 2, none⟩ (.slice o3 (P.length + 1) k3)) (exec_storeHR hR3.2.1 hR3.2.2 (.tmp 47) (.tmp 46) (by kernel_rfl) (by kernel_rfl) (by kernel_rfl)) trivial ?_
                refine wpAnyH_done (by kernel_rfl) ?_ _
                have hR4 := hR3.1
                go_wp2
                refine ⟨⟨_, P ++ [(h, .slice vo h.ls.length vc)], p2, f', ⟨o3, k3, by rw [List.length_append]; rfl⟩, hR4, hlt2.1, by rw [List.length_append]; simp; omega, hlt2.2.2.1, HN2.out h p2 r _ hk2⟩, ?_⟩
                rw [ukN_of hR4.ck, HK.out]
                omega

              · simp only [Act.put, List.setIfInBounds_toArray, List.set_cons_zero, List.set_cons_succ]
                refine go_val 1 39 _ rfl (by kernel_rfl) (by kernel_rfl) (by kernel_rfl) (.slice ho P.length hc) (u1.alloc (hkO h (.slice vo h.ls.length vc))) (load_hksR c2u (.tmp 38) (by kernel_rfl) (by kernel_rfl)) trivial ?_
                simp only [Act.put, List.setIfInBounds_toArray, List.set_cons_zero, List.set_cons_succ]
                have hlt2 := HN.out h p2 r hk2
                have hownA := hown1.alloc (hkO h (.slice vo h.ls.length vc))
                obtain ⟨v3, u3, hr3, hown3, hg3, _⟩ := run_append_w (u1.alloc (hkO h (.slice vo h.ls.length vc))) 34 59 34 (.agg #[.int .i64 0, .int .i64 0, .int .i64 0, .int .i64 0, .slice none 0 0]) 5 56 Tryz.underlying34 infoHk rfl (by decide) (by decide) wb.heap.size _ _ _ hRA.own _ 1 (hkC h (.slice vo h.ls.length vc)) (one_row u1 h (.slice vo h.ls.length vc)) rfl (fun u hu => by simp [hkC] at hu; rcases hu with rfl | rfl | rfl | rfl | rfl <;> rfl) (by omega) hRA.gr.size
                have hR3 := hRA.more hownA hg3 hown3
                obtain ⟨o3, k3, rfl⟩ := (holds_of hown3).form
                refine go_val 8 46 _ rfl (by kernel_rfl) (by kernel_rfl) (by kernel_rfl) (.slice o3 (P.length + 1) k3) u3 (exec_app (.tmp 39) (.tmp 45) (by kernel_rfl) (by kernel_rfl) (by kernel_rfl) hr3) trivial ?_
                simp only [Act.put, List.setIfInBounds_toArray, List.set_cons_zero, List.set_cons_succ]
                refine go_take 9 47 _ (.pointer (some ⟨S, 2, none⟩)) rfl (by kernel_rfl) (by kernel_rfl) (by kernel_rfl) (by kernel_rfl) (fun _ _ _ h => h) (Or.inl ⟨by kernel_rfl, fun u hu => by kernel_rfl⟩) trivial ?_
                simp only [Act.put, List.setIfInBounds_toArray, List.set_cons_zero, List.set_cons_succ]
                refine go_skip 10 _ rfl (by kernel_rfl) (by kernel_rfl) (by kernel_rfl) (u3.setCell ⟨S, 2, none⟩ (.slice o3 (P.length + 1) k3)) (exec_storeHR hR3.2.1 hR3.2.2 (.tmp 47) (.tmp 46) (by kernel_rfl) (by kernel_rfl) (by kernel_rfl)) trivial ?_
                refine wpAnyH_done (by kernel_rfl) ?_ _
                have hR4 := hR3.1
                go_wp2
                refine ⟨⟨_, P ++ [(h, .slice vo h.ls.length vc)], p2, f', ⟨o3, k3, by rw [List.length_append]; rfl⟩, hR4, hlt2.1, by rw [List.length_append]; simp; omega, hlt2.2.2.1, HN2.out h p2 r _ hk2⟩, ?_⟩
                rw [ukN_of hR4.ck, HK.out]
                omega
end Go.Proofs.YtgiojkhmkeocfaaGreatDoor
