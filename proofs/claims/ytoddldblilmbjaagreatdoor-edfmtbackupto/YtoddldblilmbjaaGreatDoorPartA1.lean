/-
  Texts that belong together, joined: CnTab.
-/
import Derived.Test.YtoddldblilmbjaaGreatDoorRows

/- A world that holds the library's tables on letters, as the rows list them. -/
set_option maxRecDepth 20000
namespace Go.Proofs.YtoddldblilmbjaaGreatDoor.Tx

def put (cs : Array Value) : Obj → Obj
  | .cells _ t frozen => .cells cs t frozen
  | o => o

/-- a world for the witness: the tables on letters hold what the rows list -/
def laidOnU (w : World) : World :=
  { w with heap := (w.heap.modify 5 (put ((Go.Pinned.utf8FirstZ.map fun n : Nat => Value.int .u8 (n : Int)).toArray))).modify 6 (put (([128, 191, 160, 191, 128, 159, 144, 191, 128, 143, 0, 0, 0, 0, 0, 0, 0, 0, 0, 0, 0, 0, 0, 0, 0, 0, 0, 0, 0, 0, 0, 0] : List Int).map (Value.int .u8)).toArray) }
end Go.Proofs.YtoddldblilmbjaaGreatDoor.Tx
