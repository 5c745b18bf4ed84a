/-
  The helper works of the statements on layer num, walked: it returns true.
-/
import Derived.Test.YtoelblofdgimfaaDoorUnq
import Derived.Test.YtoelblofdgimfaaDoorQuote
import Derived.Test.YtoelblofdgimfaaDoorParse
import Derived.Test.YtoelblofdgimfaaDoorText
import Derived.Test.YtoelblofdgimfaaDoorBackMath
namespace Go.Proofs.YtoelblofdgimfaaDoor
open Q Pn Go.RowKit

theorem itoa_12 : Lib.itoa (-12) = [45, 49, 50] := by
  unfold Lib.itoa
  rw [if_pos (by decide)]
  show 45 :: Lib.decDigits 12 = _
  rw [Lib.decDigits, dif_neg (by decide), Lib.decDigits, dif_pos (by decide)]
  decide

/-- the table of powers of ten lies as it is laid, whatever is made behind it -/
def Tabbed (w : World) : Prop := ∀ u : World, Below w.heap.size w u → Lib.TabIs Tryd.prog u "internal/strconv.uint64pow10" .u64 Lib.pow10Tab

theorem Tabbed.on {w u : World} (h : Tabbed w) (hb : Below w.heap.size w u) : Tabbed u := fun v hv => h v (hb.trans (hv.mono hb.size))

set_option maxHeartbeats 2000000 in
theorem works_any (w : World) (hT : Tabbed w) :
    Calls Tryd.prog 14 #[] w fun e w' => e = .returned (.bool true) ∧ Below w.heap.size w w' := by
  have p1 : parseV [49, 55] = 17 := by decide
  have p2 : parseE [49, 55] = 0 := by decide
  have u1 : uqa [34, 97, 92, 48, 97, 34, 120] = [97, 10] := by decide
  have u2 : uqb [34, 97, 92, 48, 97, 34, 120] = [120] := by decide
  have u3 : uqe [34, 97, 92, 48, 97, 34, 120] = 0 := by decide
  have q1 : quote [10] = [34, 92, 48, 97, 34] := by decide
  have t1 := itoa_12
  have HT : Hid (Tabbed w) := hT
  clear hT
  go_enter Tryd.func14, Tryd.ntmps14
  go_wp2_with fail
  refine (Parse_any [49, 55] _ (by simp [maxLen])).mono ?_
  rintro e w1 ⟨rfl, hb1⟩
  go_wp2_with fail
  refine (Unquote_any [34, 97, 92, 48, 97, 34, 120] _ (by simp)).mono ?_
  rintro e w2 ⟨rfl, hb2⟩
  have hb12 := hb1.trans (hb2.mono hb1.size)
  go_wp2_with fail
  refine (Text_any (-12) (by decide) (by decide) _ (HT.out _ hb12)).mono ?_
  rintro e w3 ⟨rfl, hb3⟩
  have hb13 := hb12.trans (hb3.mono hb12.size)
  go_wp2_with fail
  refine (Quote_any [10] _ (by simp)).mono ?_
  rintro e w4 ⟨rfl, hb4⟩
  go_wp2
  go_ret
  exact ⟨rfl, hb13.trans (hb4.mono hb13.size)⟩
end Go.Proofs.YtoelblofdgimfaaDoor
