/-
  Texts that belong together, joined: EdWorks.
-/
import Derived.Test.YtoacmaloiaeniaaPartD1

/- The law's own test works, walked. -/
namespace Go.Proofs.Ytoacmaloiaeniaa
open Go.RowKit

set_option maxRecDepth 10000 in
set_option maxHeartbeats 2000000 in
theorem works_any (w : World) : Calls Try.prog 25 #[] w fun e w' => e = .returned (.bool true) ∧ Below w.heap.size w w' := by
  go_enter Try.func25, Try.ntmps25
  go_wp2_with fail
  have hk0 : HI (w.alloc (Obj.cells #[Value.int IntKind.i64 0, Value.int IntKind.i64 (-1), Value.int IntKind.i64 2] 3)) (.slice (some ⟨w.heap.size, 0, none⟩) 3 3) [0, -1, 2] := new_holds w _ _ _ _ (by decide)
  have hB0 : Below w.heap.size w (w.alloc (Obj.cells #[Value.int IntKind.i64 0, Value.int IntKind.i64 (-1), Value.int IntKind.i64 2] 3)) := (Below.refl _ w).alloc (Nat.le_refl _) _
  refine (Make_f [0, -1, 2] 4 [⟨1, 1, 1, 1⟩, ⟨3, 0, 3, 1⟩] _ _ hk0 (by decide) (show Vk 0 4 [0, -1, 2] by simp [Vk]) (by decide) (by decide) rfl).mono ?_
  rintro e w1 ⟨v1, rfl, hv1, hB1⟩
  have hB01 := hB0.trans (hB1.mono hB0.size)
  have hsz1 := hB01.size
  obtain ⟨o1, c1, rfl⟩ := Holds.form hv1
  clear hB0 hB1 hk0
  go_wp2_with fail
  refine (Keep_ok [⟨1, 1, 1, 1⟩, ⟨3, 0, 3, 1⟩] 3 4 _ w1 hv1 (@of_decide_eq_true _ (decScript _ _ _) rfl) (by decide) (by decide) (by decide)).mono ?_
  rintro e w2 ⟨v2, rfl, hv2, hB2⟩
  have hv2' : HI w2 v2 [0, -1, 2] := hv2
  obtain ⟨o2, c2, rfl⟩ := Holds.form hv2'
  have hB02 := hB01.trans (hB2.mono hsz1)
  have hsz2 := hB02.size
  have hv12 := HCh.keep hv1 hB2 (Nat.le_refl _)
  clear hv2 hB2 hv1
  go_wp2_with fail
  have hB3 : Below w2.heap.size w2 (w2.alloc (Obj.cells #[Value.int IntKind.i64 1, Value.int IntKind.i64 1, Value.int IntKind.i64 1, Value.int IntKind.i64 1, Value.int IntKind.i64 3, Value.int IntKind.i64 0, Value.int IntKind.i64 3, Value.int IntKind.i64 1] 51)) := (Below.refl _ w2).alloc (Nat.le_refl _) _
  refine (SameC_any _ _ [⟨1, 1, 1, 1⟩, ⟨3, 0, 3, 1⟩] _ (by decide) (HCh.keep hv12 hB3 (Nat.le_refl _)) (new_holds w2 _ _ _ _ (by decide))).mono ?_
  rintro e w3 ⟨rfl, hB3'⟩
  have hB23 : Below w2.heap.size w2 w3 := hB3.trans (hB3'.mono (by simp))
  have hB03 := hB02.trans (hB23.mono hsz2)
  have hsz3 := hB03.size
  have hv23 := HI.keep hv2' hB23 (Nat.le_refl _)
  have hv13 := HCh.keep hv12 hB23 (Nat.le_refl _)
  clear hB3 hB3' hB23 hv12 hv2'
  go_wp2_with fail
  have hB4 : Below w3.heap.size w3 (w3.alloc (Obj.cells #[Value.int IntKind.i64 0, Value.int IntKind.i64 (-1), Value.int IntKind.i64 2] 3)) := (Below.refl _ w3).alloc (Nat.le_refl _) _
  refine (SameI_any _ _ [0, -1, 2] _ (by decide) (HI.keep hv23 hB4 (Nat.le_refl _)) (new_holds w3 _ _ _ _ (by decide))).mono ?_
  rintro e w4 ⟨rfl, hB4'⟩
  have hB34 : Below w3.heap.size w3 w4 := hB4.trans (hB4'.mono (by simp))
  have hB04 := hB03.trans (hB34.mono hsz3)
  have hv14 := HCh.keep hv13 hB34 (Nat.le_refl _)
  clear hB4 hB4' hB34
  go_wp2_with fail
  refine (Cost_f [⟨1, 1, 1, 1⟩, ⟨3, 0, 3, 1⟩] 3 _ _ hv14 (by decide) rfl).mono ?_
  rintro e w5 ⟨rfl, hB5⟩
  go_wp2
  go_ret
  exact ⟨rfl, hB04.trans (hB5.mono hB04.size)⟩
end Go.Proofs.Ytoacmaloiaeniaa
