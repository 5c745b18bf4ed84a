/-
  The walk of the law CanonOrder: whatever the texts and whatever is ignored, it returns true.
-/
import Derived.Test.YtdoennggmckldaaDoorCnOrd1
namespace Go.Proofs.YtdoennggmckldaaDoor.canonOrder
open Go.RowKit
open Cn
attribute [local go_sem] ba_at ByteArray.extract_mk ba_cat

set_option maxHeartbeats 4000000 in
set_option maxRecDepth 100000 in
theorem walk (a b c : List UInt8) (o : Ig) (w : World) (ha : a.length ≤ 137438953472) (hb : b.length ≤ 137438953472) (hc : c.length ≤ 137438953472) :
    Calls Tryd.prog 6 #[.string ⟨a.toArray⟩, .string ⟨b.toArray⟩, .string ⟨c.toArray⟩, igV o] w fun e w' => e = .returned (.bool true) ∧ Below w.heap.size w w' := by
  have hbx : Stay o w.heap.size w (w.alloc (.cells #[.bool o.sp, .bool o.wt, .bool o.bl, .bool o.cs, .bool o.tb, .bool o.tr] 23)) := ⟨Boxed.fresh o w, (Below.refl _ w).alloc (Nat.le_refl _) _⟩
  unfold igV
  go_enter Tryd.func6, Tryd.ntmps6
  go_wp2_with fail
  refine (works_any _).mono ?_
  rintro e w1 ⟨rfl, hb1⟩
  have hbx1 := hbx.keep hb1
  clear hbx hb1
  go_upto_region 3 with fail
  go_cut [49] (fun z wz => z = .bool false ∧ Stay o w.heap.size w wz)
  case first =>
    have HAA : Hid (eqL o a a = true) := eq_self o a
    refine wp_region_noPanic ?_
    refine wp_region_held_drew (S := fun w' => Stay o w.heap.size w w') (by kernel_rfl) ((stay_drew _ _ _ _).2 hbx1) (fun hHeld => ?_)
    cases hab : eqL o a b
    · have HAB : Hid (eqL o a b = false) := hab
      have HBA : Hid (eqL o b a = false) := (eq_turn o a b).trans hab
      clear hab
      refine go_take 0 15 _ (.string ⟨a.toArray⟩) rfl (by kernel_rfl) (by kernel_rfl) (by kernel_rfl) (by kernel_rfl) (fun _ _ _ h => h) (Or.inl ⟨by kernel_rfl, fun u hu => by kernel_rfl⟩) hHeld ?_
      simp only [Act.put, List.setIfInBounds_toArray, List.set_cons_zero, List.set_cons_succ]
      refine go_take 1 16 _ (.string ⟨a.toArray⟩) rfl (by kernel_rfl) (by kernel_rfl) (by kernel_rfl) (by kernel_rfl) (fun _ _ _ h => h) (Or.inl ⟨by kernel_rfl, fun u hu => by kernel_rfl⟩) hHeld ?_
      simp only [Act.put, List.setIfInBounds_toArray, List.set_cons_zero, List.set_cons_succ]
      refine go_take 2 17 _ (igV o) rfl (by kernel_rfl) (by kernel_rfl) (by kernel_rfl) (by kernel_rfl) (fun _ _ _ h => h) (Or.inl ⟨by kernel_rfl, fun u hu => load_ig hu.box (.tmp 7) (by kernel_rfl) (by kernel_rfl)⟩) hHeld ?_
      simp only [Act.put, List.setIfInBounds_toArray, List.set_cons_zero, List.set_cons_succ]
      refine go_equal 3 18 _ rfl (by kernel_rfl) (by kernel_rfl) (by kernel_rfl) (.tmp 15) (.tmp 16) (.tmp 17) #[9, 9, 23] (by kernel_rfl) a a true (by kernel_rfl) (by kernel_rfl) (by kernel_rfl) ha ha HAA hHeld (fun u hHeld => ?_)
      simp only [Act.put, List.setIfInBounds_toArray, List.set_cons_zero, List.set_cons_succ]
      refine go_take 4 19 _ (.bool false) rfl (by kernel_rfl) (by kernel_rfl) (by kernel_rfl) (by kernel_rfl) (fun _ _ _ h => h) (Or.inl ⟨by kernel_rfl, fun u hu => by kernel_rfl⟩) hHeld ?_
      simp only [Act.put, List.setIfInBounds_toArray, List.set_cons_zero, List.set_cons_succ]
      refine go_take 5 20 _ (.bool false) rfl (by kernel_rfl) (by kernel_rfl) (by kernel_rfl) (by kernel_rfl) (fun _ _ _ h => h) (Or.inl ⟨by kernel_rfl, fun u hu => by kernel_rfl⟩) hHeld ?_
      simp only [Act.put, List.setIfInBounds_toArray, List.set_cons_zero, List.set_cons_succ]
      refine go_take 6 21 _ (.string ⟨a.toArray⟩) rfl (by kernel_rfl) (by kernel_rfl) (by kernel_rfl) (by kernel_rfl) (fun _ _ _ h => h) (Or.inl ⟨by kernel_rfl, fun u hu => by kernel_rfl⟩) hHeld ?_
      simp only [Act.put, List.setIfInBounds_toArray, List.set_cons_zero, List.set_cons_succ]
      refine go_take 7 22 _ (.string ⟨b.toArray⟩) rfl (by kernel_rfl) (by kernel_rfl) (by kernel_rfl) (by kernel_rfl) (fun _ _ _ h => h) (Or.inl ⟨by kernel_rfl, fun u hu => by kernel_rfl⟩) hHeld ?_
      simp only [Act.put, List.setIfInBounds_toArray, List.set_cons_zero, List.set_cons_succ]
      refine go_take 8 23 _ (igV o) rfl (by kernel_rfl) (by kernel_rfl) (by kernel_rfl) (by kernel_rfl) (fun _ _ _ h => h) (Or.inl ⟨by kernel_rfl, fun u hu => load_ig hu.box (.tmp 7) (by kernel_rfl) (by kernel_rfl)⟩) hHeld ?_
      simp only [Act.put, List.setIfInBounds_toArray, List.set_cons_zero, List.set_cons_succ]
      refine go_take 10 25 _ (.string ⟨b.toArray⟩) rfl (by kernel_rfl) (by kernel_rfl) (by kernel_rfl) (by kernel_rfl) (fun _ _ _ h => h) (Or.inl ⟨by kernel_rfl, fun u hu => by kernel_rfl⟩) hHeld ?_
      simp only [Act.put, List.setIfInBounds_toArray, List.set_cons_zero, List.set_cons_succ]
      refine go_take 11 26 _ (.string ⟨a.toArray⟩) rfl (by kernel_rfl) (by kernel_rfl) (by kernel_rfl) (by kernel_rfl) (fun _ _ _ h => h) (Or.inl ⟨by kernel_rfl, fun u hu => by kernel_rfl⟩) hHeld ?_
      simp only [Act.put, List.setIfInBounds_toArray, List.set_cons_zero, List.set_cons_succ]
      refine go_take 12 27 _ (igV o) rfl (by kernel_rfl) (by kernel_rfl) (by kernel_rfl) (by kernel_rfl) (fun _ _ _ h => h) (Or.inl ⟨by kernel_rfl, fun u hu => load_ig hu.box (.tmp 7) (by kernel_rfl) (by kernel_rfl)⟩) hHeld ?_
      simp only [Act.put, List.setIfInBounds_toArray, List.set_cons_zero, List.set_cons_succ]
      refine go_equal 9 24 _ rfl (by kernel_rfl) (by kernel_rfl) (by kernel_rfl) (.tmp 21) (.tmp 22) (.tmp 23) #[9, 9, 23] (by kernel_rfl) a b false (by kernel_rfl) (by kernel_rfl) (by kernel_rfl) ha hb HAB hHeld (fun u hHeld => ?_)
      simp only [Act.put, List.setIfInBounds_toArray, List.set_cons_zero, List.set_cons_succ]
      refine go_equal 13 28 _ rfl (by kernel_rfl) (by kernel_rfl) (by kernel_rfl) (.tmp 25) (.tmp 26) (.tmp 27) #[9, 9, 23] (by kernel_rfl) b a false (by kernel_rfl) (by kernel_rfl) (by kernel_rfl) hb ha HBA hHeld (fun u hHeld => ?_)
      simp only [Act.put, List.setIfInBounds_toArray, List.set_cons_zero, List.set_cons_succ]
      refine go_take 14 29 _ (.bool false) rfl (by kernel_rfl) (by kernel_rfl) (by kernel_rfl) (by kernel_rfl) (fun _ _ _ h => h) (Or.inl ⟨by kernel_rfl, fun u hu => by kernel_rfl⟩) hHeld ?_
      simp only [Act.put, List.setIfInBounds_toArray, List.set_cons_zero, List.set_cons_succ]
      refine go_take 15 30 _ (.bool false) rfl (by kernel_rfl) (by kernel_rfl) (by kernel_rfl) (by kernel_rfl) (fun _ _ _ h => h) (Or.inl ⟨by kernel_rfl, fun u hu => by kernel_rfl⟩) hHeld ?_
      simp only [Act.put, List.setIfInBounds_toArray, List.set_cons_zero, List.set_cons_succ]
      refine go_take 16 31 _ (.bool false) rfl (by kernel_rfl) (by kernel_rfl) (by kernel_rfl) (by kernel_rfl) (fun _ _ _ h => h) (Or.inl ⟨by kernel_rfl, fun u hu => by kernel_rfl⟩) hHeld ?_
      simp only [Act.put, List.setIfInBounds_toArray, List.set_cons_zero, List.set_cons_succ]
      refine go_take 17 32 _ (.string ⟨a.toArray⟩) rfl (by kernel_rfl) (by kernel_rfl) (by kernel_rfl) (by kernel_rfl) (fun _ _ _ h => h) (Or.inl ⟨by kernel_rfl, fun u hu => by kernel_rfl⟩) hHeld ?_
      simp only [Act.put, List.setIfInBounds_toArray, List.set_cons_zero, List.set_cons_succ]
      refine go_take 18 33 _ (.string ⟨b.toArray⟩) rfl (by kernel_rfl) (by kernel_rfl) (by kernel_rfl) (by kernel_rfl) (fun _ _ _ h => h) (Or.inl ⟨by kernel_rfl, fun u hu => by kernel_rfl⟩) hHeld ?_
      simp only [Act.put, List.setIfInBounds_toArray, List.set_cons_zero, List.set_cons_succ]
      refine go_take 19 34 _ (igV o) rfl (by kernel_rfl) (by kernel_rfl) (by kernel_rfl) (by kernel_rfl) (fun _ _ _ h => h) (Or.inl ⟨by kernel_rfl, fun u hu => load_ig hu.box (.tmp 7) (by kernel_rfl) (by kernel_rfl)⟩) hHeld ?_
      simp only [Act.put, List.setIfInBounds_toArray, List.set_cons_zero, List.set_cons_succ]
      refine go_equal 20 35 _ rfl (by kernel_rfl) (by kernel_rfl) (by kernel_rfl) (.tmp 32) (.tmp 33) (.tmp 34) #[9, 9, 23] (by kernel_rfl) a b false (by kernel_rfl) (by kernel_rfl) (by kernel_rfl) ha hb HAB hHeld (fun u hHeld => ?_)
      simp only [Act.put, List.setIfInBounds_toArray, List.set_cons_zero, List.set_cons_succ]
      refine go_take 21 36 _ (.bool false) rfl (by kernel_rfl) (by kernel_rfl) (by kernel_rfl) (by kernel_rfl) (fun _ _ _ h => h) (Or.inl ⟨by kernel_rfl, fun u hu => by kernel_rfl⟩) hHeld ?_
      simp only [Act.put, List.setIfInBounds_toArray, List.set_cons_zero, List.set_cons_succ]
      refine go_take 22 37 _ undef rfl (by kernel_rfl) (by kernel_rfl) (by kernel_rfl) (by kernel_rfl) (fun _ _ _ h => h) (Or.inr ⟨by kernel_rfl, rfl⟩) hHeld ?_
      simp only [Act.put, List.setIfInBounds_toArray, List.set_cons_zero, List.set_cons_succ]
      refine go_take 23 38 _ undef rfl (by kernel_rfl) (by kernel_rfl) (by kernel_rfl) (by kernel_rfl) (fun _ _ _ h => h) (Or.inr ⟨by kernel_rfl, rfl⟩) hHeld ?_
      simp only [Act.put, List.setIfInBounds_toArray, List.set_cons_zero, List.set_cons_succ]
      refine go_take 24 39 _ undef rfl (by kernel_rfl) (by kernel_rfl) (by kernel_rfl) (by kernel_rfl) (fun _ _ _ h => h) (Or.inr ⟨by kernel_rfl, rfl⟩) hHeld ?_
      simp only [Act.put, List.setIfInBounds_toArray, List.set_cons_zero, List.set_cons_succ]
      refine go_none 25 40 _ rfl (by kernel_rfl) (by kernel_rfl) (by kernel_rfl) hHeld ?_
      simp only [Act.put, List.setIfInBounds_toArray, List.set_cons_zero, List.set_cons_succ]
      refine go_take 26 41 _ (.bool false) rfl (by kernel_rfl) (by kernel_rfl) (by kernel_rfl) (by kernel_rfl) (fun _ _ _ h => h) (Or.inl ⟨by kernel_rfl, fun u hu => by kernel_rfl⟩) hHeld ?_
      simp only [Act.put, List.setIfInBounds_toArray, List.set_cons_zero, List.set_cons_succ]
      refine go_take 27 42 _ (.bool false) rfl (by kernel_rfl) (by kernel_rfl) (by kernel_rfl) (by kernel_rfl) (fun _ _ _ h => h) (Or.inl ⟨by kernel_rfl, fun u hu => by kernel_rfl⟩) hHeld ?_
      simp only [Act.put, List.setIfInBounds_toArray, List.set_cons_zero, List.set_cons_succ]
      refine go_take 28 43 _ undef rfl (by kernel_rfl) (by kernel_rfl) (by kernel_rfl) (by kernel_rfl) (fun _ _ _ h => h) (Or.inr ⟨by kernel_rfl, rfl⟩) hHeld ?_
      simp only [Act.put, List.setIfInBounds_toArray, List.set_cons_zero, List.set_cons_succ]
      refine go_take 29 44 _ undef rfl (by kernel_rfl) (by kernel_rfl) (by kernel_rfl) (by kernel_rfl) (fun _ _ _ h => h) (Or.inr ⟨by kernel_rfl, rfl⟩) hHeld ?_
      simp only [Act.put, List.setIfInBounds_toArray, List.set_cons_zero, List.set_cons_succ]
      refine go_take 30 45 _ undef rfl (by kernel_rfl) (by kernel_rfl) (by kernel_rfl) (by kernel_rfl) (fun _ _ _ h => h) (Or.inr ⟨by kernel_rfl, rfl⟩) hHeld ?_
      simp only [Act.put, List.setIfInBounds_toArray, List.set_cons_zero, List.set_cons_succ]
      refine go_none 31 46 _ rfl (by kernel_rfl) (by kernel_rfl) (by kernel_rfl) hHeld ?_
      simp only [Act.put, List.setIfInBounds_toArray, List.set_cons_zero, List.set_cons_succ]
      refine go_take 32 47 _ undef rfl (by kernel_rfl) (by kernel_rfl) (by kernel_rfl) (by kernel_rfl) (fun _ _ _ h => h) (Or.inr ⟨by kernel_rfl, rfl⟩) hHeld ?_
      simp only [Act.put, List.setIfInBounds_toArray, List.set_cons_zero, List.set_cons_succ]
      refine go_take 33 48 _ (.bool false) rfl (by kernel_rfl) (by kernel_rfl) (by kernel_rfl) (by kernel_rfl) (fun _ _ _ h => h) (Or.inl ⟨by kernel_rfl, fun u hu => by kernel_rfl⟩) hHeld ?_
      simp only [Act.put, List.setIfInBounds_toArray, List.set_cons_zero, List.set_cons_succ]
      refine go_take 34 49 _ (.bool false) rfl (by kernel_rfl) (by kernel_rfl) (by kernel_rfl) (by kernel_rfl) (fun _ _ _ h => h) (Or.inl ⟨by kernel_rfl, fun u hu => by kernel_rfl⟩) hHeld ?_
      simp only [Act.put, List.setIfInBounds_toArray, List.set_cons_zero, List.set_cons_succ]
      refine wpAnyH_done (by kernel_rfl) ?_ _
      refine NoPanic.normal ?_
      go_wp2_with fail
      go_meet
      case rel => exact ⟨rfl, hHeld⟩
    · have HAB : Hid (eqL o a b = true) := hab
      have HBA : Hid (eqL o b a = true) := (eq_turn o a b).trans hab
      cases hbc : eqL o b c
      · have HBC : Hid (eqL o b c = false) := hbc
        clear hab hbc
        refine go_take 0 15 _ (.string ⟨a.toArray⟩) rfl (by kernel_rfl) (by kernel_rfl) (by kernel_rfl) (by kernel_rfl) (fun _ _ _ h => h) (Or.inl ⟨by kernel_rfl, fun u hu => by kernel_rfl⟩) hHeld ?_
        simp only [Act.put, List.setIfInBounds_toArray, List.set_cons_zero, List.set_cons_succ]
        refine go_take 1 16 _ (.string ⟨a.toArray⟩) rfl (by kernel_rfl) (by kernel_rfl) (by kernel_rfl) (by kernel_rfl) (fun _ _ _ h => h) (Or.inl ⟨by kernel_rfl, fun u hu => by kernel_rfl⟩) hHeld ?_
        simp only [Act.put, List.setIfInBounds_toArray, List.set_cons_zero, List.set_cons_succ]
        refine go_take 2 17 _ (igV o) rfl (by kernel_rfl) (by kernel_rfl) (by kernel_rfl) (by kernel_rfl) (fun _ _ _ h => h) (Or.inl ⟨by kernel_rfl, fun u hu => load_ig hu.box (.tmp 7) (by kernel_rfl) (by kernel_rfl)⟩) hHeld ?_
        simp only [Act.put, List.setIfInBounds_toArray, List.set_cons_zero, List.set_cons_succ]
        refine go_equal 3 18 _ rfl (by kernel_rfl) (by kernel_rfl) (by kernel_rfl) (.tmp 15) (.tmp 16) (.tmp 17) #[9, 9, 23] (by kernel_rfl) a a true (by kernel_rfl) (by kernel_rfl) (by kernel_rfl) ha ha HAA hHeld (fun u hHeld => ?_)
        simp only [Act.put, List.setIfInBounds_toArray, List.set_cons_zero, List.set_cons_succ]
        refine go_take 4 19 _ (.bool false) rfl (by kernel_rfl) (by kernel_rfl) (by kernel_rfl) (by kernel_rfl) (fun _ _ _ h => h) (Or.inl ⟨by kernel_rfl, fun u hu => by kernel_rfl⟩) hHeld ?_
        simp only [Act.put, List.setIfInBounds_toArray, List.set_cons_zero, List.set_cons_succ]
        refine go_take 5 20 _ (.bool false) rfl (by kernel_rfl) (by kernel_rfl) (by kernel_rfl) (by kernel_rfl) (fun _ _ _ h => h) (Or.inl ⟨by kernel_rfl, fun u hu => by kernel_rfl⟩) hHeld ?_
        simp only [Act.put, List.setIfInBounds_toArray, List.set_cons_zero, List.set_cons_succ]
        refine go_take 6 21 _ (.string ⟨a.toArray⟩) rfl (by kernel_rfl) (by kernel_rfl) (by kernel_rfl) (by kernel_rfl) (fun _ _ _ h => h) (Or.inl ⟨by kernel_rfl, fun u hu => by kernel_rfl⟩) hHeld ?_
        simp only [Act.put, List.setIfInBounds_toArray, List.set_cons_zero, List.set_cons_succ]
        refine go_take 7 22 _ (.string ⟨b.toArray⟩) rfl (by kernel_rfl) (by kernel_rfl) (by kernel_rfl) (by kernel_rfl) (fun _ _ _ h => h) (Or.inl ⟨by kernel_rfl, fun u hu => by kernel_rfl⟩) hHeld ?_
        simp only [Act.put, List.setIfInBounds_toArray, List.set_cons_zero, List.set_cons_succ]
        refine go_take 8 23 _ (igV o) rfl (by kernel_rfl) (by kernel_rfl) (by kernel_rfl) (by kernel_rfl) (fun _ _ _ h => h) (Or.inl ⟨by kernel_rfl, fun u hu => load_ig hu.box (.tmp 7) (by kernel_rfl) (by kernel_rfl)⟩) hHeld ?_
        simp only [Act.put, List.setIfInBounds_toArray, List.set_cons_zero, List.set_cons_succ]
        refine go_take 10 25 _ (.string ⟨b.toArray⟩) rfl (by kernel_rfl) (by kernel_rfl) (by kernel_rfl) (by kernel_rfl) (fun _ _ _ h => h) (Or.inl ⟨by kernel_rfl, fun u hu => by kernel_rfl⟩) hHeld ?_
        simp only [Act.put, List.setIfInBounds_toArray, List.set_cons_zero, List.set_cons_succ]
        refine go_take 11 26 _ (.string ⟨a.toArray⟩) rfl (by kernel_rfl) (by kernel_rfl) (by kernel_rfl) (by kernel_rfl) (fun _ _ _ h => h) (Or.inl ⟨by kernel_rfl, fun u hu => by kernel_rfl⟩) hHeld ?_
        simp only [Act.put, List.setIfInBounds_toArray, List.set_cons_zero, List.set_cons_succ]
        refine go_take 12 27 _ (igV o) rfl (by kernel_rfl) (by kernel_rfl) (by kernel_rfl) (by kernel_rfl) (fun _ _ _ h => h) (Or.inl ⟨by kernel_rfl, fun u hu => load_ig hu.box (.tmp 7) (by kernel_rfl) (by kernel_rfl)⟩) hHeld ?_
        simp only [Act.put, List.setIfInBounds_toArray, List.set_cons_zero, List.set_cons_succ]
        refine go_equal 9 24 _ rfl (by kernel_rfl) (by kernel_rfl) (by kernel_rfl) (.tmp 21) (.tmp 22) (.tmp 23) #[9, 9, 23] (by kernel_rfl) a b true (by kernel_rfl) (by kernel_rfl) (by kernel_rfl) ha hb HAB hHeld (fun u hHeld => ?_)
        simp only [Act.put, List.setIfInBounds_toArray, List.set_cons_zero, List.set_cons_succ]
        refine go_equal 13 28 _ rfl (by kernel_rfl) (by kernel_rfl) (by kernel_rfl) (.tmp 25) (.tmp 26) (.tmp 27) #[9, 9, 23] (by kernel_rfl) b a true (by kernel_rfl) (by kernel_rfl) (by kernel_rfl) hb ha HBA hHeld (fun u hHeld => ?_)
        simp only [Act.put, List.setIfInBounds_toArray, List.set_cons_zero, List.set_cons_succ]
        refine go_take 14 29 _ (.bool false) rfl (by kernel_rfl) (by kernel_rfl) (by kernel_rfl) (by kernel_rfl) (fun _ _ _ h => h) (Or.inl ⟨by kernel_rfl, fun u hu => by kernel_rfl⟩) hHeld ?_
        simp only [Act.put, List.setIfInBounds_toArray, List.set_cons_zero, List.set_cons_succ]
        refine go_take 15 30 _ (.bool false) rfl (by kernel_rfl) (by kernel_rfl) (by kernel_rfl) (by kernel_rfl) (fun _ _ _ h => h) (Or.inl ⟨by kernel_rfl, fun u hu => by kernel_rfl⟩) hHeld ?_
        simp only [Act.put, List.setIfInBounds_toArray, List.set_cons_zero, List.set_cons_succ]
        refine go_take 16 31 _ (.bool false) rfl (by kernel_rfl) (by kernel_rfl) (by kernel_rfl) (by kernel_rfl) (fun _ _ _ h => h) (Or.inl ⟨by kernel_rfl, fun u hu => by kernel_rfl⟩) hHeld ?_
        simp only [Act.put, List.setIfInBounds_toArray, List.set_cons_zero, List.set_cons_succ]
        refine go_take 17 32 _ (.string ⟨a.toArray⟩) rfl (by kernel_rfl) (by kernel_rfl) (by kernel_rfl) (by kernel_rfl) (fun _ _ _ h => h) (Or.inl ⟨by kernel_rfl, fun u hu => by kernel_rfl⟩) hHeld ?_
        simp only [Act.put, List.setIfInBounds_toArray, List.set_cons_zero, List.set_cons_succ]
        refine go_take 18 33 _ (.string ⟨b.toArray⟩) rfl (by kernel_rfl) (by kernel_rfl) (by kernel_rfl) (by kernel_rfl) (fun _ _ _ h => h) (Or.inl ⟨by kernel_rfl, fun u hu => by kernel_rfl⟩) hHeld ?_
        simp only [Act.put, List.setIfInBounds_toArray, List.set_cons_zero, List.set_cons_succ]
        refine go_take 19 34 _ (igV o) rfl (by kernel_rfl) (by kernel_rfl) (by kernel_rfl) (by kernel_rfl) (fun _ _ _ h => h) (Or.inl ⟨by kernel_rfl, fun u hu => load_ig hu.box (.tmp 7) (by kernel_rfl) (by kernel_rfl)⟩) hHeld ?_
        simp only [Act.put, List.setIfInBounds_toArray, List.set_cons_zero, List.set_cons_succ]
        refine go_equal 20 35 _ rfl (by kernel_rfl) (by kernel_rfl) (by kernel_rfl) (.tmp 32) (.tmp 33) (.tmp 34) #[9, 9, 23] (by kernel_rfl) a b true (by kernel_rfl) (by kernel_rfl) (by kernel_rfl) ha hb HAB hHeld (fun u hHeld => ?_)
        simp only [Act.put, List.setIfInBounds_toArray, List.set_cons_zero, List.set_cons_succ]
        refine go_take 21 36 _ (.bool true) rfl (by kernel_rfl) (by kernel_rfl) (by kernel_rfl) (by kernel_rfl) (fun _ _ _ h => h) (Or.inl ⟨by kernel_rfl, fun u hu => by kernel_rfl⟩) hHeld ?_
        simp only [Act.put, List.setIfInBounds_toArray, List.set_cons_zero, List.set_cons_succ]
        refine go_take 22 37 _ (.string ⟨b.toArray⟩) rfl (by kernel_rfl) (by kernel_rfl) (by kernel_rfl) (by kernel_rfl) (fun _ _ _ h => h) (Or.inl ⟨by kernel_rfl, fun u hu => by kernel_rfl⟩) hHeld ?_
        simp only [Act.put, List.setIfInBounds_toArray, List.set_cons_zero, List.set_cons_succ]
        refine go_take 23 38 _ (.string ⟨c.toArray⟩) rfl (by kernel_rfl) (by kernel_rfl) (by kernel_rfl) (by kernel_rfl) (fun _ _ _ h => h) (Or.inl ⟨by kernel_rfl, fun u hu => by kernel_rfl⟩) hHeld ?_
        simp only [Act.put, List.setIfInBounds_toArray, List.set_cons_zero, List.set_cons_succ]
        refine go_take 24 39 _ (igV o) rfl (by kernel_rfl) (by kernel_rfl) (by kernel_rfl) (by kernel_rfl) (fun _ _ _ h => h) (Or.inl ⟨by kernel_rfl, fun u hu => load_ig hu.box (.tmp 7) (by kernel_rfl) (by kernel_rfl)⟩) hHeld ?_
        simp only [Act.put, List.setIfInBounds_toArray, List.set_cons_zero, List.set_cons_succ]
        refine go_equal 25 40 _ rfl (by kernel_rfl) (by kernel_rfl) (by kernel_rfl) (.tmp 37) (.tmp 38) (.tmp 39) #[9, 9, 23] (by kernel_rfl) b c false (by kernel_rfl) (by kernel_rfl) (by kernel_rfl) hb hc HBC hHeld (fun u hHeld => ?_)
        simp only [Act.put, List.setIfInBounds_toArray, List.set_cons_zero, List.set_cons_succ]
        refine go_take 26 41 _ (.bool false) rfl (by kernel_rfl) (by kernel_rfl) (by kernel_rfl) (by kernel_rfl) (fun _ _ _ h => h) (Or.inl ⟨by kernel_rfl, fun u hu => by kernel_rfl⟩) hHeld ?_
        simp only [Act.put, List.setIfInBounds_toArray, List.set_cons_zero, List.set_cons_succ]
        refine go_take 27 42 _ (.bool false) rfl (by kernel_rfl) (by kernel_rfl) (by kernel_rfl) (by kernel_rfl) (fun _ _ _ h => h) (Or.inl ⟨by kernel_rfl, fun u hu => by kernel_rfl⟩) hHeld ?_
        simp only [Act.put, List.setIfInBounds_toArray, List.set_cons_zero, List.set_cons_succ]
        refine go_take 28 43 _ undef rfl (by kernel_rfl) (by kernel_rfl) (by kernel_rfl) (by kernel_rfl) (fun _ _ _ h => h) (Or.inr ⟨by kernel_rfl, rfl⟩) hHeld ?_
        simp only [Act.put, List.setIfInBounds_toArray, List.set_cons_zero, List.set_cons_succ]
        refine go_take 29 44 _ undef rfl (by kernel_rfl) (by kernel_rfl) (by kernel_rfl) (by kernel_rfl) (fun _ _ _ h => h) (Or.inr ⟨by kernel_rfl, rfl⟩) hHeld ?_
        simp only [Act.put, List.setIfInBounds_toArray, List.set_cons_zero, List.set_cons_succ]
        refine go_take 30 45 _ undef rfl (by kernel_rfl) (by kernel_rfl) (by kernel_rfl) (by kernel_rfl) (fun _ _ _ h => h) (Or.inr ⟨by kernel_rfl, rfl⟩) hHeld ?_
        simp only [Act.put, List.setIfInBounds_toArray, List.set_cons_zero, List.set_cons_succ]
        refine go_none 31 46 _ rfl (by kernel_rfl) (by kernel_rfl) (by kernel_rfl) hHeld ?_
        simp only [Act.put, List.setIfInBounds_toArray, List.set_cons_zero, List.set_cons_succ]
        refine go_take 32 47 _ undef rfl (by kernel_rfl) (by kernel_rfl) (by kernel_rfl) (by kernel_rfl) (fun _ _ _ h => h) (Or.inr ⟨by kernel_rfl, rfl⟩) hHeld ?_
        simp only [Act.put, List.setIfInBounds_toArray, List.set_cons_zero, List.set_cons_succ]
        refine go_take 33 48 _ (.bool false) rfl (by kernel_rfl) (by kernel_rfl) (by kernel_rfl) (by kernel_rfl) (fun _ _ _ h => h) (Or.inl ⟨by kernel_rfl, fun u hu => by kernel_rfl⟩) hHeld ?_
        simp only [Act.put, List.setIfInBounds_toArray, List.set_cons_zero, List.set_cons_succ]
        refine go_take 34 49 _ (.bool false) rfl (by kernel_rfl) (by kernel_rfl) (by kernel_rfl) (by kernel_rfl) (fun _ _ _ h => h) (Or.inl ⟨by kernel_rfl, fun u hu => by kernel_rfl⟩) hHeld ?_
        simp only [Act.put, List.setIfInBounds_toArray, List.set_cons_zero, List.set_cons_succ]
        refine wpAnyH_done (by kernel_rfl) ?_ _
        refine NoPanic.normal ?_
        go_wp2_with fail
        go_meet
        case rel => exact ⟨rfl, hHeld⟩
      · have HBC : Hid (eqL o b c = true) := hbc
        have HAC : Hid (eqL o a c = true) := eq_chain hab hbc
        clear hab hbc
        refine go_take 0 15 _ (.string ⟨a.toArray⟩) rfl (by kernel_rfl) (by kernel_rfl) (by kernel_rfl) (by kernel_rfl) (fun _ _ _ h => h) (Or.inl ⟨by kernel_rfl, fun u hu => by kernel_rfl⟩) hHeld ?_
        simp only [Act.put, List.setIfInBounds_toArray, List.set_cons_zero, List.set_cons_succ]
        refine go_take 1 16 _ (.string ⟨a.toArray⟩) rfl (by kernel_rfl) (by kernel_rfl) (by kernel_rfl) (by kernel_rfl) (fun _ _ _ h => h) (Or.inl ⟨by kernel_rfl, fun u hu => by kernel_rfl⟩) hHeld ?_
        simp only [Act.put, List.setIfInBounds_toArray, List.set_cons_zero, List.set_cons_succ]
        refine go_take 2 17 _ (igV o) rfl (by kernel_rfl) (by kernel_rfl) (by kernel_rfl) (by kernel_rfl) (fun _ _ _ h => h) (Or.inl ⟨by kernel_rfl, fun u hu => load_ig hu.box (.tmp 7) (by kernel_rfl) (by kernel_rfl)⟩) hHeld ?_
        simp only [Act.put, List.setIfInBounds_toArray, List.set_cons_zero, List.set_cons_succ]
        refine go_equal 3 18 _ rfl (by kernel_rfl) (by kernel_rfl) (by kernel_rfl) (.tmp 15) (.tmp 16) (.tmp 17) #[9, 9, 23] (by kernel_rfl) a a true (by kernel_rfl) (by kernel_rfl) (by kernel_rfl) ha ha HAA hHeld (fun u hHeld => ?_)
        simp only [Act.put, List.setIfInBounds_toArray, List.set_cons_zero, List.set_cons_succ]
        refine go_take 4 19 _ (.bool false) rfl (by kernel_rfl) (by kernel_rfl) (by kernel_rfl) (by kernel_rfl) (fun _ _ _ h => h) (Or.inl ⟨by kernel_rfl, fun u hu => by kernel_rfl⟩) hHeld ?_
        simp only [Act.put, List.setIfInBounds_toArray, List.set_cons_zero, List.set_cons_succ]
        refine go_take 5 20 _ (.bool false) rfl (by kernel_rfl) (by kernel_rfl) (by kernel_rfl) (by kernel_rfl) (fun _ _ _ h => h) (Or.inl ⟨by kernel_rfl, fun u hu => by kernel_rfl⟩) hHeld ?_
        simp only [Act.put, List.setIfInBounds_toArray, List.set_cons_zero, List.set_cons_succ]
        refine go_take 6 21 _ (.string ⟨a.toArray⟩) rfl (by kernel_rfl) (by kernel_rfl) (by kernel_rfl) (by kernel_rfl) (fun _ _ _ h => h) (Or.inl ⟨by kernel_rfl, fun u hu => by kernel_rfl⟩) hHeld ?_
        simp only [Act.put, List.setIfInBounds_toArray, List.set_cons_zero, List.set_cons_succ]
        refine go_take 7 22 _ (.string ⟨b.toArray⟩) rfl (by kernel_rfl) (by kernel_rfl) (by kernel_rfl) (by kernel_rfl) (fun _ _ _ h => h) (Or.inl ⟨by kernel_rfl, fun u hu => by kernel_rfl⟩) hHeld ?_
        simp only [Act.put, List.setIfInBounds_toArray, List.set_cons_zero, List.set_cons_succ]
        refine go_take 8 23 _ (igV o) rfl (by kernel_rfl) (by kernel_rfl) (by kernel_rfl) (by kernel_rfl) (fun _ _ _ h => h) (Or.inl ⟨by kernel_rfl, fun u hu => load_ig hu.box (.tmp 7) (by kernel_rfl) (by kernel_rfl)⟩) hHeld ?_
        simp only [Act.put, List.setIfInBounds_toArray, List.set_cons_zero, List.set_cons_succ]
        refine go_take 10 25 _ (.string ⟨b.toArray⟩) rfl (by kernel_rfl) (by kernel_rfl) (by kernel_rfl) (by kernel_rfl) (fun _ _ _ h => h) (Or.inl ⟨by kernel_rfl, fun u hu => by kernel_rfl⟩) hHeld ?_
        simp only [Act.put, List.setIfInBounds_toArray, List.set_cons_zero, List.set_cons_succ]
        refine go_take 11 26 _ (.string ⟨a.toArray⟩) rfl (by kernel_rfl) (by kernel_rfl) (by kernel_rfl) (by kernel_rfl) (fun _ _ _ h => h) (Or.inl ⟨by kernel_rfl, fun u hu => by kernel_rfl⟩) hHeld ?_
        simp only [Act.put, List.setIfInBounds_toArray, List.set_cons_zero, List.set_cons_succ]
        refine go_take 12 27 _ (igV o) rfl (by kernel_rfl) (by kernel_rfl) (by kernel_rfl) (by kernel_rfl) (fun _ _ _ h => h) (Or.inl ⟨by kernel_rfl, fun u hu => load_ig hu.box (.tmp 7) (by kernel_rfl) (by kernel_rfl)⟩) hHeld ?_
        simp only [Act.put, List.setIfInBounds_toArray, List.set_cons_zero, List.set_cons_succ]
        refine go_equal 9 24 _ rfl (by kernel_rfl) (by kernel_rfl) (by kernel_rfl) (.tmp 21) (.tmp 22) (.tmp 23) #[9, 9, 23] (by kernel_rfl) a b true (by kernel_rfl) (by kernel_rfl) (by kernel_rfl) ha hb HAB hHeld (fun u hHeld => ?_)
        simp only [Act.put, List.setIfInBounds_toArray, List.set_cons_zero, List.set_cons_succ]
        refine go_equal 13 28 _ rfl (by kernel_rfl) (by kernel_rfl) (by kernel_rfl) (.tmp 25) (.tmp 26) (.tmp 27) #[9, 9, 23] (by kernel_rfl) b a true (by kernel_rfl) (by kernel_rfl) (by kernel_rfl) hb ha HBA hHeld (fun u hHeld => ?_)
        simp only [Act.put, List.setIfInBounds_toArray, List.set_cons_zero, List.set_cons_succ]
        refine go_take 14 29 _ (.bool false) rfl (by kernel_rfl) (by kernel_rfl) (by kernel_rfl) (by kernel_rfl) (fun _ _ _ h => h) (Or.inl ⟨by kernel_rfl, fun u hu => by kernel_rfl⟩) hHeld ?_
        simp only [Act.put, List.setIfInBounds_toArray, List.set_cons_zero, List.set_cons_succ]
        refine go_take 15 30 _ (.bool false) rfl (by kernel_rfl) (by kernel_rfl) (by kernel_rfl) (by kernel_rfl) (fun _ _ _ h => h) (Or.inl ⟨by kernel_rfl, fun u hu => by kernel_rfl⟩) hHeld ?_
        simp only [Act.put, List.setIfInBounds_toArray, List.set_cons_zero, List.set_cons_succ]
        refine go_take 16 31 _ (.bool false) rfl (by kernel_rfl) (by kernel_rfl) (by kernel_rfl) (by kernel_rfl) (fun _ _ _ h => h) (Or.inl ⟨by kernel_rfl, fun u hu => by kernel_rfl⟩) hHeld ?_
        simp only [Act.put, List.setIfInBounds_toArray, List.set_cons_zero, List.set_cons_succ]
        refine go_take 17 32 _ (.string ⟨a.toArray⟩) rfl (by kernel_rfl) (by kernel_rfl) (by kernel_rfl) (by kernel_rfl) (fun _ _ _ h => h) (Or.inl ⟨by kernel_rfl, fun u hu => by kernel_rfl⟩) hHeld ?_
        simp only [Act.put, List.setIfInBounds_toArray, List.set_cons_zero, List.set_cons_succ]
        refine go_take 18 33 _ (.string ⟨b.toArray⟩) rfl (by kernel_rfl) (by kernel_rfl) (by kernel_rfl) (by kernel_rfl) (fun _ _ _ h => h) (Or.inl ⟨by kernel_rfl, fun u hu => by kernel_rfl⟩) hHeld ?_
        simp only [Act.put, List.setIfInBounds_toArray, List.set_cons_zero, List.set_cons_succ]
        refine go_take 19 34 _ (igV o) rfl (by kernel_rfl) (by kernel_rfl) (by kernel_rfl) (by kernel_rfl) (fun _ _ _ h => h) (Or.inl ⟨by kernel_rfl, fun u hu => load_ig hu.box (.tmp 7) (by kernel_rfl) (by kernel_rfl)⟩) hHeld ?_
        simp only [Act.put, List.setIfInBounds_toArray, List.set_cons_zero, List.set_cons_succ]
        refine go_equal 20 35 _ rfl (by kernel_rfl) (by kernel_rfl) (by kernel_rfl) (.tmp 32) (.tmp 33) (.tmp 34) #[9, 9, 23] (by kernel_rfl) a b true (by kernel_rfl) (by kernel_rfl) (by kernel_rfl) ha hb HAB hHeld (fun u hHeld => ?_)
        simp only [Act.put, List.setIfInBounds_toArray, List.set_cons_zero, List.set_cons_succ]
        refine go_take 21 36 _ (.bool true) rfl (by kernel_rfl) (by kernel_rfl) (by kernel_rfl) (by kernel_rfl) (fun _ _ _ h => h) (Or.inl ⟨by kernel_rfl, fun u hu => by kernel_rfl⟩) hHeld ?_
        simp only [Act.put, List.setIfInBounds_toArray, List.set_cons_zero, List.set_cons_succ]
        refine go_take 22 37 _ (.string ⟨b.toArray⟩) rfl (by kernel_rfl) (by kernel_rfl) (by kernel_rfl) (by kernel_rfl) (fun _ _ _ h => h) (Or.inl ⟨by kernel_rfl, fun u hu => by kernel_rfl⟩) hHeld ?_
        simp only [Act.put, List.setIfInBounds_toArray, List.set_cons_zero, List.set_cons_succ]
        refine go_take 23 38 _ (.string ⟨c.toArray⟩) rfl (by kernel_rfl) (by kernel_rfl) (by kernel_rfl) (by kernel_rfl) (fun _ _ _ h => h) (Or.inl ⟨by kernel_rfl, fun u hu => by kernel_rfl⟩) hHeld ?_
        simp only [Act.put, List.setIfInBounds_toArray, List.set_cons_zero, List.set_cons_succ]
        refine go_take 24 39 _ (igV o) rfl (by kernel_rfl) (by kernel_rfl) (by kernel_rfl) (by kernel_rfl) (fun _ _ _ h => h) (Or.inl ⟨by kernel_rfl, fun u hu => load_ig hu.box (.tmp 7) (by kernel_rfl) (by kernel_rfl)⟩) hHeld ?_
        simp only [Act.put, List.setIfInBounds_toArray, List.set_cons_zero, List.set_cons_succ]
        refine go_equal 25 40 _ rfl (by kernel_rfl) (by kernel_rfl) (by kernel_rfl) (.tmp 37) (.tmp 38) (.tmp 39) #[9, 9, 23] (by kernel_rfl) b c true (by kernel_rfl) (by kernel_rfl) (by kernel_rfl) hb hc HBC hHeld (fun u hHeld => ?_)
        simp only [Act.put, List.setIfInBounds_toArray, List.set_cons_zero, List.set_cons_succ]
        refine go_take 26 41 _ (.bool true) rfl (by kernel_rfl) (by kernel_rfl) (by kernel_rfl) (by kernel_rfl) (fun _ _ _ h => h) (Or.inl ⟨by kernel_rfl, fun u hu => by kernel_rfl⟩) hHeld ?_
        simp only [Act.put, List.setIfInBounds_toArray, List.set_cons_zero, List.set_cons_succ]
        refine go_take 27 42 _ (.bool true) rfl (by kernel_rfl) (by kernel_rfl) (by kernel_rfl) (by kernel_rfl) (fun _ _ _ h => h) (Or.inl ⟨by kernel_rfl, fun u hu => by kernel_rfl⟩) hHeld ?_
        simp only [Act.put, List.setIfInBounds_toArray, List.set_cons_zero, List.set_cons_succ]
        refine go_take 28 43 _ (.string ⟨a.toArray⟩) rfl (by kernel_rfl) (by kernel_rfl) (by kernel_rfl) (by kernel_rfl) (fun _ _ _ h => h) (Or.inl ⟨by kernel_rfl, fun u hu => by kernel_rfl⟩) hHeld ?_
        simp only [Act.put, List.setIfInBounds_toArray, List.set_cons_zero, List.set_cons_succ]
        refine go_take 29 44 _ (.string ⟨c.toArray⟩) rfl (by kernel_rfl) (by kernel_rfl) (by kernel_rfl) (by kernel_rfl) (fun _ _ _ h => h) (Or.inl ⟨by kernel_rfl, fun u hu => by kernel_rfl⟩) hHeld ?_
        simp only [Act.put, List.setIfInBounds_toArray, List.set_cons_zero, List.set_cons_succ]
        refine go_take 30 45 _ (igV o) rfl (by kernel_rfl) (by kernel_rfl) (by kernel_rfl) (by kernel_rfl) (fun _ _ _ h => h) (Or.inl ⟨by kernel_rfl, fun u hu => load_ig hu.box (.tmp 7) (by kernel_rfl) (by kernel_rfl)⟩) hHeld ?_
        simp only [Act.put, List.setIfInBounds_toArray, List.set_cons_zero, List.set_cons_succ]
        refine go_equal 31 46 _ rfl (by kernel_rfl) (by kernel_rfl) (by kernel_rfl) (.tmp 43) (.tmp 44) (.tmp 45) #[9, 9, 23] (by kernel_rfl) a c true (by kernel_rfl) (by kernel_rfl) (by kernel_rfl) ha hc HAC hHeld (fun u hHeld => ?_)
        simp only [Act.put, List.setIfInBounds_toArray, List.set_cons_zero, List.set_cons_succ]
        refine go_take 32 47 _ (.bool false) rfl (by kernel_rfl) (by kernel_rfl) (by kernel_rfl) (by kernel_rfl) (fun _ _ _ h => h) (Or.inl ⟨by kernel_rfl, fun u hu => by kernel_rfl⟩) hHeld ?_
        simp only [Act.put, List.setIfInBounds_toArray, List.set_cons_zero, List.set_cons_succ]
        refine go_take 33 48 _ (.bool false) rfl (by kernel_rfl) (by kernel_rfl) (by kernel_rfl) (by kernel_rfl) (fun _ _ _ h => h) (Or.inl ⟨by kernel_rfl, fun u hu => by kernel_rfl⟩) hHeld ?_
        simp only [Act.put, List.setIfInBounds_toArray, List.set_cons_zero, List.set_cons_succ]
        refine go_take 34 49 _ (.bool false) rfl (by kernel_rfl) (by kernel_rfl) (by kernel_rfl) (by kernel_rfl) (fun _ _ _ h => h) (Or.inl ⟨by kernel_rfl, fun u hu => by kernel_rfl⟩) hHeld ?_
        simp only [Act.put, List.setIfInBounds_toArray, List.set_cons_zero, List.set_cons_succ]
        refine wpAnyH_done (by kernel_rfl) ?_ _
        refine NoPanic.normal ?_
        go_wp2_with fail
        go_meet
        case rel => exact ⟨rfl, hHeld⟩
  case rest =>
    obtain ⟨rfl, hS⟩ := hcut
    obtain ⟨d0, d1, d2, d3, d4, d5⟩ := hS.box.cells
    have f0 : wc.frozen? ⟨w.heap.size, 0, none⟩ = false := Lib.frozen_of_heap hS.box 0
    have f1 : wc.frozen? ⟨w.heap.size, 1, none⟩ = false := Lib.frozen_of_heap hS.box 1
    have f5 : wc.frozen? ⟨w.heap.size, 5, none⟩ = false := Lib.frozen_of_heap hS.box 5
    go_wp2_with fail
    have hS2 := stay_off hS
    generalize (((wc.setCell ⟨w.heap.size, 5, none⟩ (.bool false)).setCell ⟨w.heap.size, 0, none⟩ (.bool false)).setCell ⟨w.heap.size, 1, none⟩ (.bool false)) = w2 at hS2 ⊢
    clear d0 d1 d2 d3 d4 d5 f0 f1 f5 hS hbx1
    refine (Equal_any a b (o0 o) _ ha hb).mono ?_
    rintro e w3 ⟨rfl, hb3⟩
    have hS3 := hS2.keep hb3
    clear hS2 hb3
    go_wp2
    go_loopw [9, 10, 11, 12] (fun was i _ _ wr => ∃ k : Nat, k ≤ 4 ∧ i = .int .i64 k ∧ was = .bool (wasL o a b k) ∧ Stay (o0 o) w.heap.size w wr) (fun _ i _ _ _ => 4 - (intOf i).toNat)
    case atStart => exact ⟨0, Nat.zero_le _, rfl, rfl, hS3⟩
    case round =>
      obtain ⟨k, hk, rfl, rfl, hS⟩ := hrel
      clear hS3
      rcases (show k = 0 ∨ k = 1 ∨ k = 2 ∨ k = 3 ∨ k = 4 by omega) with rfl | rfl | rfl | rfl | rfl
      · have d0 : wr.cell? ⟨w.heap.size, 0, none⟩ = some (.bool false) := hS.box.cells.1
        have d1 : wr.cell? ⟨w.heap.size, 1, none⟩ = some (.bool false) := hS.box.cells.2.1
        have d2 : wr.cell? ⟨w.heap.size, 2, none⟩ = some (.bool o.bl) := hS.box.cells.2.2.1
        have d3 : wr.cell? ⟨w.heap.size, 3, none⟩ = some (.bool o.cs) := hS.box.cells.2.2.2.1
        have d4 : wr.cell? ⟨w.heap.size, 4, none⟩ = some (.bool o.tb) := hS.box.cells.2.2.2.2.1
        have d5 : wr.cell? ⟨w.heap.size, 5, none⟩ = some (.bool false) := hS.box.cells.2.2.2.2.2
        have hok : ok o 0 = ⟨false, false, o.bl, o.cs, o.tb, false⟩ := rfl
        have HG : Hid (wasL o a b 0 = true → eqL (ok o 0) a b = true) := fun h => grows (by omega) h
        have HL : Hid (wasL o a b 1 = eqL (ok o 0) a b) := rfl
        cases hn : eqL (ok o 0) a b
        · have HN : Hid (eqL ⟨false, false, o.bl, o.cs, o.tb, false⟩ a b = false) := by rw [hok] at hn; exact hn
          have hw : wasL o a b 0 = false := by
            cases hw : wasL o a b 0
            · rfl
            · rw [HG.out hw] at hn; cases hn
          have HL2 : Hid (wasL o a b 1 = false) := HL.out.trans hn
          rw [hw]
          clear hn hw HG HL hok
          go_wp2_with fail
          refine (Equal_val a b ⟨false, false, o.bl, o.cs, o.tb, false⟩ false _ ha hb HN).mono ?_
          rintro e w4 ⟨rfl, hb4⟩
          obtain ⟨hbox, hlow⟩ := made (o := ⟨false, false, o.bl, o.cs, o.tb, false⟩) hb4
          obtain ⟨g0, g1, g2, g3, g4, g5⟩ := hbox.cells
          have f3 : w4.frozen? ⟨wr.heap.size, 3, none⟩ = false := Lib.frozen_of_heap hbox 3
          clear hb4 HN
          go_wp2
          go_roundw
          case rel => exact ⟨1, by omega, by go_num, by rw [HL2.out], hS.keep (hlow.setCell (p := ⟨wr.heap.size, 3, none⟩) (Nat.le_refl _) _)⟩
          case measure => simp [intOf]
        · have HN : Hid (eqL ⟨false, false, o.bl, o.cs, o.tb, false⟩ a b = true) := by rw [hok] at hn; exact hn
          have HC : Hid (eqL ⟨false, false, o.bl, true, o.tb, false⟩ a b = true) := cased (o := ⟨false, false, o.bl, o.cs, o.tb, false⟩) HN.out
          have HL2 : Hid (wasL o a b 1 = true) := HL.out.trans hn
          clear hn HG HL hok
          cases wasL o a b 0
          all_goals
            go_wp2_with fail
            refine (Equal_val a b ⟨false, false, o.bl, o.cs, o.tb, false⟩ true _ ha hb HN).mono ?_
            rintro e w4 ⟨rfl, hb4⟩
            obtain ⟨hbox, hlow⟩ := made (o := ⟨false, false, o.bl, o.cs, o.tb, false⟩) hb4
            obtain ⟨g0, g1, g2, g3, g4, g5⟩ := hbox.cells
            have f3 : w4.frozen? ⟨wr.heap.size, 3, none⟩ = false := Lib.frozen_of_heap hbox 3
            clear hb4
            go_wp2_with fail
            refine (Equal_val a b ⟨false, false, o.bl, true, o.tb, false⟩ true _ ha hb HC).mono ?_
            rintro e w5 ⟨rfl, hb5⟩
            have hlow2 := hlow.setCell (p := ⟨wr.heap.size, 3, none⟩) (Nat.le_refl _) (.bool true)
            go_wp2
            go_roundw
            case rel => exact ⟨1, by omega, by go_num, by rw [HL2.out], hS.keep (hlow2.trans (hb5.mono hlow2.size))⟩
            case measure => simp [intOf]
      · have d0 : wr.cell? ⟨w.heap.size, 0, none⟩ = some (.bool false) := hS.box.cells.1
        have d1 : wr.cell? ⟨w.heap.size, 1, none⟩ = some (.bool false) := hS.box.cells.2.1
        have d2 : wr.cell? ⟨w.heap.size, 2, none⟩ = some (.bool o.bl) := hS.box.cells.2.2.1
        have d3 : wr.cell? ⟨w.heap.size, 3, none⟩ = some (.bool o.cs) := hS.box.cells.2.2.2.1
        have d4 : wr.cell? ⟨w.heap.size, 4, none⟩ = some (.bool o.tb) := hS.box.cells.2.2.2.2.1
        have d5 : wr.cell? ⟨w.heap.size, 5, none⟩ = some (.bool false) := hS.box.cells.2.2.2.2.2
        have hok : ok o 1 = ⟨false, false, o.bl, o.cs, o.tb, true⟩ := rfl
        have HG : Hid (wasL o a b 1 = true → eqL (ok o 1) a b = true) := fun h => grows (by omega) h
        have HL : Hid (wasL o a b 2 = eqL (ok o 1) a b) := rfl
        cases hn : eqL (ok o 1) a b
        · have HN : Hid (eqL ⟨false, false, o.bl, o.cs, o.tb, true⟩ a b = false) := by rw [hok] at hn; exact hn
          have hw : wasL o a b 1 = false := by
            cases hw : wasL o a b 1
            · rfl
            · rw [HG.out hw] at hn; cases hn
          have HL2 : Hid (wasL o a b 2 = false) := HL.out.trans hn
          rw [hw]
          clear hn hw HG HL hok
          go_wp2_with fail
          refine (Equal_val a b ⟨false, false, o.bl, o.cs, o.tb, true⟩ false _ ha hb HN).mono ?_
          rintro e w4 ⟨rfl, hb4⟩
          obtain ⟨hbox, hlow⟩ := made (o := ⟨false, false, o.bl, o.cs, o.tb, true⟩) hb4
          obtain ⟨g0, g1, g2, g3, g4, g5⟩ := hbox.cells
          have f3 : w4.frozen? ⟨wr.heap.size, 3, none⟩ = false := Lib.frozen_of_heap hbox 3
          clear hb4 HN
          go_wp2
          go_roundw
          case rel => exact ⟨2, by omega, by go_num, by rw [HL2.out], hS.keep (hlow.setCell (p := ⟨wr.heap.size, 3, none⟩) (Nat.le_refl _) _)⟩
          case measure => simp [intOf]
        · have HN : Hid (eqL ⟨false, false, o.bl, o.cs, o.tb, true⟩ a b = true) := by rw [hok] at hn; exact hn
          have HC : Hid (eqL ⟨false, false, o.bl, true, o.tb, true⟩ a b = true) := cased (o := ⟨false, false, o.bl, o.cs, o.tb, true⟩) HN.out
          have HL2 : Hid (wasL o a b 2 = true) := HL.out.trans hn
          clear hn HG HL hok
          cases wasL o a b 1
          all_goals
            go_wp2_with fail
            refine (Equal_val a b ⟨false, false, o.bl, o.cs, o.tb, true⟩ true _ ha hb HN).mono ?_
            rintro e w4 ⟨rfl, hb4⟩
            obtain ⟨hbox, hlow⟩ := made (o := ⟨false, false, o.bl, o.cs, o.tb, true⟩) hb4
            obtain ⟨g0, g1, g2, g3, g4, g5⟩ := hbox.cells
            have f3 : w4.frozen? ⟨wr.heap.size, 3, none⟩ = false := Lib.frozen_of_heap hbox 3
            clear hb4
            go_wp2_with fail
            refine (Equal_val a b ⟨false, false, o.bl, true, o.tb, true⟩ true _ ha hb HC).mono ?_
            rintro e w5 ⟨rfl, hb5⟩
            have hlow2 := hlow.setCell (p := ⟨wr.heap.size, 3, none⟩) (Nat.le_refl _) (.bool true)
            go_wp2
            go_roundw
            case rel => exact ⟨2, by omega, by go_num, by rw [HL2.out], hS.keep (hlow2.trans (hb5.mono hlow2.size))⟩
            case measure => simp [intOf]
      · have d0 : wr.cell? ⟨w.heap.size, 0, none⟩ = some (.bool false) := hS.box.cells.1
        have d1 : wr.cell? ⟨w.heap.size, 1, none⟩ = some (.bool false) := hS.box.cells.2.1
        have d2 : wr.cell? ⟨w.heap.size, 2, none⟩ = some (.bool o.bl) := hS.box.cells.2.2.1
        have d3 : wr.cell? ⟨w.heap.size, 3, none⟩ = some (.bool o.cs) := hS.box.cells.2.2.2.1
        have d4 : wr.cell? ⟨w.heap.size, 4, none⟩ = some (.bool o.tb) := hS.box.cells.2.2.2.2.1
        have d5 : wr.cell? ⟨w.heap.size, 5, none⟩ = some (.bool false) := hS.box.cells.2.2.2.2.2
        have hok : ok o 2 = ⟨true, false, o.bl, o.cs, o.tb, false⟩ := rfl
        have HG : Hid (wasL o a b 2 = true → eqL (ok o 2) a b = true) := fun h => grows (by omega) h
        have HL : Hid (wasL o a b 3 = eqL (ok o 2) a b) := rfl
        cases hn : eqL (ok o 2) a b
        · have HN : Hid (eqL ⟨true, false, o.bl, o.cs, o.tb, false⟩ a b = false) := by rw [hok] at hn; exact hn
          have hw : wasL o a b 2 = false := by
            cases hw : wasL o a b 2
            · rfl
            · rw [HG.out hw] at hn; cases hn
          have HL2 : Hid (wasL o a b 3 = false) := HL.out.trans hn
          rw [hw]
          clear hn hw HG HL hok
          go_wp2_with fail
          refine (Equal_val a b ⟨true, false, o.bl, o.cs, o.tb, false⟩ false _ ha hb HN).mono ?_
          rintro e w4 ⟨rfl, hb4⟩
          obtain ⟨hbox, hlow⟩ := made (o := ⟨true, false, o.bl, o.cs, o.tb, false⟩) hb4
          obtain ⟨g0, g1, g2, g3, g4, g5⟩ := hbox.cells
          have f3 : w4.frozen? ⟨wr.heap.size, 3, none⟩ = false := Lib.frozen_of_heap hbox 3
          clear hb4 HN
          go_wp2
          go_roundw
          case rel => exact ⟨3, by omega, by go_num, by rw [HL2.out], hS.keep (hlow.setCell (p := ⟨wr.heap.size, 3, none⟩) (Nat.le_refl _) _)⟩
          case measure => simp [intOf]
        · have HN : Hid (eqL ⟨true, false, o.bl, o.cs, o.tb, false⟩ a b = true) := by rw [hok] at hn; exact hn
          have HC : Hid (eqL ⟨true, false, o.bl, true, o.tb, false⟩ a b = true) := cased (o := ⟨true, false, o.bl, o.cs, o.tb, false⟩) HN.out
          have HL2 : Hid (wasL o a b 3 = true) := HL.out.trans hn
          clear hn HG HL hok
          cases wasL o a b 2
          all_goals
            go_wp2_with fail
            refine (Equal_val a b ⟨true, false, o.bl, o.cs, o.tb, false⟩ true _ ha hb HN).mono ?_
            rintro e w4 ⟨rfl, hb4⟩
            obtain ⟨hbox, hlow⟩ := made (o := ⟨true, false, o.bl, o.cs, o.tb, false⟩) hb4
            obtain ⟨g0, g1, g2, g3, g4, g5⟩ := hbox.cells
            have f3 : w4.frozen? ⟨wr.heap.size, 3, none⟩ = false := Lib.frozen_of_heap hbox 3
            clear hb4
            go_wp2_with fail
            refine (Equal_val a b ⟨true, false, o.bl, true, o.tb, false⟩ true _ ha hb HC).mono ?_
            rintro e w5 ⟨rfl, hb5⟩
            have hlow2 := hlow.setCell (p := ⟨wr.heap.size, 3, none⟩) (Nat.le_refl _) (.bool true)
            go_wp2
            go_roundw
            case rel => exact ⟨3, by omega, by go_num, by rw [HL2.out], hS.keep (hlow2.trans (hb5.mono hlow2.size))⟩
            case measure => simp [intOf]
      · have d0 : wr.cell? ⟨w.heap.size, 0, none⟩ = some (.bool false) := hS.box.cells.1
        have d1 : wr.cell? ⟨w.heap.size, 1, none⟩ = some (.bool false) := hS.box.cells.2.1
        have d2 : wr.cell? ⟨w.heap.size, 2, none⟩ = some (.bool o.bl) := hS.box.cells.2.2.1
        have d3 : wr.cell? ⟨w.heap.size, 3, none⟩ = some (.bool o.cs) := hS.box.cells.2.2.2.1
        have d4 : wr.cell? ⟨w.heap.size, 4, none⟩ = some (.bool o.tb) := hS.box.cells.2.2.2.2.1
        have d5 : wr.cell? ⟨w.heap.size, 5, none⟩ = some (.bool false) := hS.box.cells.2.2.2.2.2
        have hok : ok o 3 = ⟨false, true, o.bl, o.cs, o.tb, false⟩ := rfl
        have HG : Hid (wasL o a b 3 = true → eqL (ok o 3) a b = true) := fun h => grows (by omega) h
        have HL : Hid (wasL o a b 4 = eqL (ok o 3) a b) := rfl
        cases hn : eqL (ok o 3) a b
        · have HN : Hid (eqL ⟨false, true, o.bl, o.cs, o.tb, false⟩ a b = false) := by rw [hok] at hn; exact hn
          have hw : wasL o a b 3 = false := by
            cases hw : wasL o a b 3
            · rfl
            · rw [HG.out hw] at hn; cases hn
          have HL2 : Hid (wasL o a b 4 = false) := HL.out.trans hn
          rw [hw]
          clear hn hw HG HL hok
          go_wp2_with fail
          refine (Equal_val a b ⟨false, true, o.bl, o.cs, o.tb, false⟩ false _ ha hb HN).mono ?_
          rintro e w4 ⟨rfl, hb4⟩
          obtain ⟨hbox, hlow⟩ := made (o := ⟨false, true, o.bl, o.cs, o.tb, false⟩) hb4
          obtain ⟨g0, g1, g2, g3, g4, g5⟩ := hbox.cells
          have f3 : w4.frozen? ⟨wr.heap.size, 3, none⟩ = false := Lib.frozen_of_heap hbox 3
          clear hb4 HN
          go_wp2
          go_roundw
          case rel => exact ⟨4, by omega, by go_num, by rw [HL2.out], hS.keep (hlow.setCell (p := ⟨wr.heap.size, 3, none⟩) (Nat.le_refl _) _)⟩
          case measure => simp [intOf]
        · have HN : Hid (eqL ⟨false, true, o.bl, o.cs, o.tb, false⟩ a b = true) := by rw [hok] at hn; exact hn
          have HC : Hid (eqL ⟨false, true, o.bl, true, o.tb, false⟩ a b = true) := cased (o := ⟨false, true, o.bl, o.cs, o.tb, false⟩) HN.out
          have HL2 : Hid (wasL o a b 4 = true) := HL.out.trans hn
          clear hn HG HL hok
          cases wasL o a b 3
          all_goals
            go_wp2_with fail
            refine (Equal_val a b ⟨false, true, o.bl, o.cs, o.tb, false⟩ true _ ha hb HN).mono ?_
            rintro e w4 ⟨rfl, hb4⟩
            obtain ⟨hbox, hlow⟩ := made (o := ⟨false, true, o.bl, o.cs, o.tb, false⟩) hb4
            obtain ⟨g0, g1, g2, g3, g4, g5⟩ := hbox.cells
            have f3 : w4.frozen? ⟨wr.heap.size, 3, none⟩ = false := Lib.frozen_of_heap hbox 3
            clear hb4
            go_wp2_with fail
            refine (Equal_val a b ⟨false, true, o.bl, true, o.tb, false⟩ true _ ha hb HC).mono ?_
            rintro e w5 ⟨rfl, hb5⟩
            have hlow2 := hlow.setCell (p := ⟨wr.heap.size, 3, none⟩) (Nat.le_refl _) (.bool true)
            go_wp2
            go_roundw
            case rel => exact ⟨4, by omega, by go_num, by rw [HL2.out], hS.keep (hlow2.trans (hb5.mono hlow2.size))⟩
            case measure => simp [intOf]
      · go_wp2
        go_ret
        exact ⟨rfl, hS.low⟩
end Go.Proofs.YtdoennggmckldaaDoor.canonOrder
