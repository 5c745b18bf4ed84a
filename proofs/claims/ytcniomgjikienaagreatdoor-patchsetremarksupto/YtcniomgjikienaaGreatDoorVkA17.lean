/-
  Texts that belong together, joined: NoTab, NoEt, NoTt.
-/
import Derived.Test.YtcniomgjikienaaGreatDoorRows
import Derived.WalkKit
import Derived.ProofKit
import Derived.Deep.DeepHandedRow
import Derived.Lib.ItoaNum
import Derived.Lib.LaidTab
import Derived.LaidSub
import Derived.LaidLaws
import Derived.LaidHandle
import Derived.Test.YtcniomgjikienaaGreatDoorVkA1

set_option maxHeartbeats 16000000
set_option maxRecDepth 100000
namespace Go.Proofs.YtcniomgjikienaaGreatDoor.Tb

section
open Go.RowKit
def put (cs:Array Value):Obj→Obj
 | .cells _ t frozen=>.cells cs t frozen
 | o=>o
def laidOn (w:World):World :=
 { w with heap:=((w.heap.modify 2 (put (([1,10,100,1000,10000,100000,1000000,10000000,100000000,1000000000,10000000000,100000000000,1000000000000,10000000000000,100000000000000,1000000000000000,10000000000000000,100000000000000000,1000000000000000000,10000000000000000000]:List Int).map (Value.int .u64)).toArray)).modify 5 (put (([0,1,28,2,29,14,24,3,30,22,20,15,25,17,4,8,31,27,13,23,21,19,16,7,26,12,18,6,11,5,10,9]:List Int).map (Value.int .u8)).toArray)).modify 6 (put (([0,1,56,2,57,49,28,3,61,58,42,50,38,29,17,4,62,47,59,36,45,43,51,22,53,39,33,30,24,18,12,5,63,55,48,27,60,41,37,16,46,35,44,21,52,32,23,11,54,26,40,15,34,20,31,10,25,14,19,9,13,8,7,6]:List Int).map (Value.int .u8)).toArray) }
end

end Go.Proofs.YtcniomgjikienaaGreatDoor.Tb

namespace Go.Proofs.YtcniomgjikienaaGreatDoor.Et

section
open Go.RowKit
theorem gEt : Tryz.prog.globalNamed "errors.errorType" = some 0 := by kernel_rfl
theorem gRt : (Tryz.prog.cutTypes.find? (·.1 == "internal/reflectlite.rtype")).map (·.2) = some 157 := by kernel_rfl
theorem oneRow:((List.range Tryz.prog.types.size).filter fun t=>Tryz.prog.rowNamed t [101,114,114,111,114])=[24]:=by kernel_rfl
theorem met {W : World} (l : List (String × DataW Unit)) (e : l.filter (fun x => x.1 == "errors.errorType") = [("errors.errorType", Rows.laid_errors_errorType)]) (h : laidMetH Tryz.prog l W) : W.cell? ⟨0, 0, none⟩ = some (.iface 157 (.agg #[.pointer (some ⟨7, 24, none⟩)])) := by
 have h1 := h.filter (fun x => x.1 == "errors.errorType")
 rw[e] at h1
 have h' : laidMet Tryz.prog [] W ∧ handlesMet Tryz.prog [("errors.errorType", Rows.laid_errors_errorType)] W := h1
 obtain⟨name,u,ty,e1,e2,e3,e4,e5⟩:=h'.2 _ (List.mem_singleton.2 rfl)
 have en:name=[101,114,114,111,114]:=(Option.some.inj e1).symm
 subst en
 obtain rfl:=Option.some.inj (gRt.symm.trans e2)
 have hm:ty∈(List.range Tryz.prog.types.size).filter fun t=>Tryz.prog.rowNamed t [101,114,114,111,114]:=List.mem_filter.2 ⟨List.mem_range.2 e3,e4⟩
 rw[oneRow] at hm
 obtain rfl:=List.mem_singleton.1 hm
 have hh:typeHandle Tryz.prog 24=.pointer (some ⟨7,24,none⟩):=by kernel_rfl
 rw[hh] at e5
 simpa using World.var?_cell gEt e5 0
def put (cs:Array Value):Obj→Obj
 | .cells _ t frozen=>.cells cs t frozen
 | o=>o
def laidOn (w:World):World:={ w with heap:=w.heap.modify 0 (put #[.iface 157 (.agg #[.pointer (some ⟨7,24,none⟩)])]) }
end

end Go.Proofs.YtcniomgjikienaaGreatDoor.Et

namespace Go.Proofs.YtcniomgjikienaaGreatDoor.Tt

section
def laidOn (w:World):World:=Et.laidOn (Tb.laidOn (Tx.laidOnU w))
end

end Go.Proofs.YtcniomgjikienaaGreatDoor.Tt
