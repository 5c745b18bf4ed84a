/-
  Texts that belong together, joined: MiWk.
-/
import Derived.Test.YtoacmaloiaeniabPartA3

/- The worked example of the layer minimal, walked. -/
namespace Go.Proofs.Ytoacmaloiaeniab
open Go.RowKit

theorem ex_lc : lc [1, 2, 3, 1] [2, 1, 3] = 2 := by simp [lc]
theorem ex_kp : kp 0 [1, 2, 3, 1] [2, 1, 3] = [-1, 0, -1, 1] := by simp [kp, lc]
theorem ex_mk : mkL (kp 0 [1, 2, 3, 1] [2, 1, 3]) (([2, 1, 3] : List Int).length : Int) = [⟨0, 1, 0, 0⟩, ⟨2, 1, 1, 0⟩, ⟨4, 0, 2, 1⟩] := by rw [ex_kp]; rfl
set_option maxRecDepth 10000 in
set_option maxHeartbeats 2000000 in
theorem works_any (w : World) : Calls Try.prog 15 #[] w fun e w' => e = .returned (.bool true) ∧ Below w.heap.size w w' := by
  go_enter Try.func15, Try.ntmps15
  go_wp2_with fail
  obtain ⟨r1, r2, r3⟩ := two_rows w #[.int .i64 1, .int .i64 2, .int .i64 3, .int .i64 1] #[.int .i64 2, .int .i64 1, .int .i64 3] 4 3 _ rfl [1, 2, 3, 1] [2, 1, 3] rfl rfl rfl rfl
  refine (Diff_f [1, 2, 3, 1] [2, 1, 3] _ _ _ r1 r2 (by decide) (by decide) [⟨0, 1, 0, 0⟩, ⟨2, 1, 1, 0⟩, ⟨4, 0, 2, 1⟩] ex_mk).mono ?_
  rintro e w1 ⟨v1, rfl, hv1, hB1⟩
  have hB01 := r3.trans (hB1.mono r3.size)
  clear r1 r2 r3 hB1
  obtain ⟨o1, c1, rfl⟩ := Holds.form hv1
  go_wp2_with fail
  obtain ⟨r1, r2, r3⟩ := two_rows w1 #[.int .i64 1, .int .i64 2, .int .i64 3, .int .i64 1] #[.int .i64 2, .int .i64 1, .int .i64 3] 4 3 _ rfl [1, 2, 3, 1] [2, 1, 3] rfl rfl rfl rfl
  refine (Length_f [1, 2, 3, 1] [2, 1, 3] _ _ _ r1 r2 (by decide) (by decide) 2 ex_lc).mono ?_
  rintro e w2 ⟨rfl, hB2⟩
  have hB12 := r3.trans (hB2.mono r3.size)
  have hB02 := hB01.trans (hB12.mono hB01.size)
  have hv2 := HCh.keep hv1 hB12 (Nat.le_refl _)
  clear r1 r2 r3 hB2 hB12 hv1
  go_wp2_with fail
  have hB3 : Below w2.heap.size w2 (w2.alloc (Obj.cells #[Value.int IntKind.i64 0, Value.int IntKind.i64 1, Value.int IntKind.i64 0, Value.int IntKind.i64 0, Value.int IntKind.i64 2, Value.int IntKind.i64 1, Value.int IntKind.i64 1, Value.int IntKind.i64 0, Value.int IntKind.i64 4, Value.int IntKind.i64 0, Value.int IntKind.i64 2, Value.int IntKind.i64 1] 50)) := (Below.refl _ w2).alloc (Nat.le_refl _) _
  refine (SameC_any _ _ [⟨0, 1, 0, 0⟩, ⟨2, 1, 1, 0⟩, ⟨4, 0, 2, 1⟩] _ (by decide) (HCh.keep hv2 hB3 (Nat.le_refl _)) (new_holds w2 _ _ _ _ (by decide))).mono ?_
  rintro e w3 ⟨rfl, hB3'⟩
  go_wp2
  go_ret
  exact ⟨rfl, hB02.trans ((hB3.trans (hB3'.mono (by simp))).mono hB02.size)⟩
end Go.Proofs.Ytoacmaloiaeniab
