/-
  The helper works of the statements, walked: it returns true.
-/
import Derived.Test.YtfjcichcmdnheabLnSplit
import Derived.Test.YtfjcichcmdnheabLnFirst
import Derived.Test.YtfjcichcmdnheabLnCheck
namespace Go.Proofs.Ytfjcichcmdnheab
open Ln Go.RowKit
attribute [local go_sem] ba_at ByteArray.extract_mk

theorem split_ab : splitL [97, 10, 98] = [[97, 10], [98]] := by decide
theorem first_ab : firstN [97, 10, 98] [97, 10, 99] = 3 ∧ firstL [97, 10, 98] [97, 10, 99] = 2 ∧ firstB [97, 10, 98] [97, 10, 99] = true := by decide
theorem check_ab : checkE [[97, 10], [98]] = 0 := by decide

set_option maxHeartbeats 1000000 in
theorem works_any (w : World) :
    Calls Try.prog 4 #[] w fun e w' => e = .returned (.bool true) ∧ Below w.heap.size w w' := by
  go_enter Try.func4, Try.ntmps4
  go_wp2_with fail
  refine (Split_any [97, 10, 98] _ (by decide)).mono ?_
  rintro e w1 ⟨v, rfl, hown, hb1⟩
  rw [split_ab] at hown
  have hS := srow_of hown
  obtain ⟨b, off, cap, rfl, hc⟩ : ∃ b off cap, v = .slice (some ⟨b, off, none⟩) 2 cap ∧ ∀ j (h : j < 2), w1.cell? ⟨b, off + j, none⟩ = some (.string ⟨([[97, 10], [98]] : List (List UInt8))[j].toArray⟩) := by
    rcases hS with ⟨h, _⟩ | ⟨b, off, cap, h, hc⟩
    · cases h
    · exact ⟨b, off, cap, h, hc⟩
  clear hown
  go_wp2_with fail
  refine (First_any [97, 10, 98] [97, 10, 99] _ (by decide) (by decide)).mono ?_
  rintro e w2 ⟨rfl, hb2⟩
  have hlt := World.block_lt_of_cell? w1 _ (hc 0 (by decide))
  have c0 : w2.cell? ⟨b, off, none⟩ = some (.string ⟨([97, 10] : List UInt8).toArray⟩) := (hb2.cell (p := ⟨b, off, none⟩) hlt).trans (hc 0 (by decide))
  have c1 : w2.cell? ⟨b, off + 1, none⟩ = some (.string ⟨([98] : List UInt8).toArray⟩) := (hb2.cell (p := ⟨b, off + 1, none⟩) hlt).trans (hc 1 (by decide))
  have hS2 := hS.keep hb2.block
  rw [first_ab.1, first_ab.2.1, first_ab.2.2]
  clear hc hS
  go_wp2_with fail
  refine (Check_any _ [[97, 10], [98]] _ (by decide) (by decide) hS2).mono ?_
  rintro e w3 ⟨rfl, rfl⟩
  rw [check_ab]
  go_wp2
  go_ret
  exact ⟨rfl, hb1.trans (hb2.mono hb1.size)⟩
end Go.Proofs.Ytfjcichcmdnheab
