/-
  Texts that belong together, joined: EfRf.
-/
import Derived.Test.YtnlbjknfahhfaaaGreatDoorPartA8
import Derived.Test.YtnlbjknfahhfaaaGreatDoorPartA4
import Derived.Test.YtnlbjknfahhfaaaGreatDoorPartA6

/- The reference's Print of the editor's form, walked. -/
set_option maxRecDepth 20000
namespace Go.Proofs.YtnlbjknfahhfaaaGreatDoor
open Go.RowKit

theorem txF_step (op : Bool) (L : List (List UInt8)) (k : Nat) (h : k < L.length) : txF op (L.drop k) = (if op = true then [] else [[97, 10]]) ++ (if bareT L[k] = [46] then dotsL ++ txF false (L.drop (k + 1)) else (bareT L[k] ++ [10]) :: txF true (L.drop (k + 1))) := by
  rw [List.drop_eq_getElem_cons h, txF]
theorem bareT_le (s : List UInt8) : (bareT s).length ≤ s.length := by
  unfold bareT
  split
  · rw [List.length_dropLast]; omega
  · exact Nat.le_refl _
end Go.Proofs.YtnlbjknfahhfaaaGreatDoor
