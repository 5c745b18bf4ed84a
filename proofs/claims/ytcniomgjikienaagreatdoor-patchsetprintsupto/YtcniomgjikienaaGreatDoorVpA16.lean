/-
  Texts that belong together, joined: NoTab, NoEt, NoTt.
-/
import Derived.Test.YtcniomgjikienaaGreatDoorRows
import Derived.WalkKit
import Derived.ProofKit
import Derived.Deep.DeepHandedRow
import Derived.Lib.ItoaNum
import Derived.Lib.LaidTab
import Derived.LaidSub
import Derived.LaidLaws
import Derived.LaidHandle
import Derived.Test.YtcniomgjikienaaGreatDoorVpA1

set_option maxHeartbeats 16000000
set_option maxRecDepth 100000
namespace Go.Proofs.YtcniomgjikienaaGreatDoor.Tb

section
open Go.RowKit
theorem gTab : Tryz.prog.globalNamed "internal/strconv.uint64pow10" = some 2 := by kernel_rfl
theorem gTabType:(Tryz.prog.globals[2]?).map (·.type)=some 388:=by kernel_rfl
theorem cellsTab:Tryz.prog.cellsOf 388=20:=by kernel_rfl
theorem cellsU64:Tryz.prog.cellsOf 51=1:=by kernel_rfl
theorem tab_of {W : World} (l : List (String × DataW Unit)) (e : l.filter (fun x => x.1 == "internal/strconv.uint64pow10") = [("internal/strconv.uint64pow10", Rows.laid_internal_strconv_uint64pow10)]) (h : laidMetH Tryz.prog l W) : Lib.TabIs Tryz.prog W "internal/strconv.uint64pow10" .u64 Lib.pow10Tab := by
 have h1 := h.filter (fun x => x.1 == "internal/strconv.uint64pow10")
 rw[e] at h1
 have h2:=Lib.tabIs_of_head (zs:=[1,10,100,1000,10000,100000,1000000,10000000,100000000,1000000000,10000000000,100000000000,1000000000000,10000000000000,100000000000000,1000000000000000,10000000000000000,100000000000000000,1000000000000000000,10000000000000000000]) (rest:=[]) gTab gTabType Tryz.underlying388 Tryz.underlying51 cellsU64 cellsTab h1
 have e2:Lib.pow10Tab=[1,10,100,1000,10000,100000,1000000,10000000,100000000,1000000000,10000000000,100000000000,1000000000000,10000000000000,100000000000000,1000000000000000,10000000000000000,100000000000000000,1000000000000000000,10000000000000000000]:=by decide +kernel
 rw[e2]
 exact h2
theorem tab_lt {W : World} (h : Lib.TabIs Tryz.prog W "internal/strconv.uint64pow10" .u64 Lib.pow10Tab) : 2 < W.heap.size := by
 rcases Nat.lt_or_ge 2 W.heap.size with h1 | h1
 ·exact h1
 ·unfold Lib.TabIs World.var? at h
  rw[gTab] at h
  simp[Array.getElem?_eq_none h1] at h
def put (cs:Array Value):Obj→Obj
 | .cells _ t frozen=>.cells cs t frozen
 | o=>o
def laidOn (w:World):World :=
 { w with heap:=((w.heap.modify 2 (put (([1,10,100,1000,10000,100000,1000000,10000000,100000000,1000000000,10000000000,100000000000,1000000000000,10000000000000,100000000000000,1000000000000000,10000000000000000,100000000000000000,1000000000000000000,10000000000000000000]:List Int).map (Value.int .u64)).toArray)).modify 5 (put (([0,1,28,2,29,14,24,3,30,22,20,15,25,17,4,8,31,27,13,23,21,19,16,7,26,12,18,6,11,5,10,9]:List Int).map (Value.int .u8)).toArray)).modify 6 (put (([0,1,56,2,57,49,28,3,61,58,42,50,38,29,17,4,62,47,59,36,45,43,51,22,53,39,33,30,24,18,12,5,63,55,48,27,60,41,37,16,46,35,44,21,52,32,23,11,54,26,40,15,34,20,31,10,25,14,19,9,13,8,7,6]:List Int).map (Value.int .u8)).toArray) }
end

end Go.Proofs.YtcniomgjikienaaGreatDoor.Tb

namespace Go.Proofs.YtcniomgjikienaaGreatDoor.Et

section
open Go.RowKit
def put (cs:Array Value):Obj→Obj
 | .cells _ t frozen=>.cells cs t frozen
 | o=>o
def laidOn (w:World):World:={ w with heap:=w.heap.modify 0 (put #[.iface 157 (.agg #[.pointer (some ⟨7,24,none⟩)])]) }
end

end Go.Proofs.YtcniomgjikienaaGreatDoor.Et

namespace Go.Proofs.YtcniomgjikienaaGreatDoor.Tt

section
def laidOn (w:World):World:=Et.laidOn (Tb.laidOn (Tx.laidOnU w))
end

end Go.Proofs.YtcniomgjikienaaGreatDoor.Tt
