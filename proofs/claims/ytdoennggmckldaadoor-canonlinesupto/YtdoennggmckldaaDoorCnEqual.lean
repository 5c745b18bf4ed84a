/-
  Equal and Blank of layer canon, walked.
-/
import Derived.Test.YtdoennggmckldaaDoorCnCanon
namespace Go.Proofs.YtdoennggmckldaaDoor
open Cn Go.RowKit
attribute [local go_sem] ba_at ByteArray.extract_mk ba_cat

/-- a variable that holds what is ignored, and all below it as it was -/
structure Stay (o : Ig) (b : Nat) (W w : World) : Prop where
  box : Boxed o b w
  low : Below W.heap.size W w
theorem Stay.keep {o : Ig} {b : Nat} {W w w' : World} (h : Stay o b W w) (hb : Below w.heap.size w w') : Stay o b W w' := ⟨h.box.keep hb, h.low.trans (hb.mono h.low.size)⟩
theorem stay_drew (o : Ig) (b : Nat) (W w : World) : Stay o b W w.drew ↔ Stay o b W w := ⟨fun h => ⟨h.box, (h.low.trans ⟨rfl, rfl, rfl, Nat.le_refl _, fun _ _ => rfl⟩ : Below W.heap.size W w)⟩, fun h => ⟨h.box, h.low.drew⟩⟩
attribute [local simp] stay_drew

/-- a call that leaves all below as it was leaves that variable, too -/
theorem stayed {P : Program} {f : FuncId} {args : Array Value} {v : Value} {w : World} (h : Calls P f args w fun e w' => e = .returned v ∧ Below w.heap.size w w') (o : Ig) (b : Nat) (W : World) (hS : Stay o b W w) :
    Calls P f args w fun e w' => e = .returned v ∧ w'.cell? ⟨b, 0, none⟩ = some (.bool o.sp) ∧ w'.cell? ⟨b, 1, none⟩ = some (.bool o.wt) ∧ w'.cell? ⟨b, 2, none⟩ = some (.bool o.bl) ∧ w'.cell? ⟨b, 3, none⟩ = some (.bool o.cs) ∧ w'.cell? ⟨b, 4, none⟩ = some (.bool o.tb) ∧ w'.cell? ⟨b, 5, none⟩ = some (.bool o.tr) ∧ Stay o b W w' := by
  refine h.mono ?_
  rintro e w' ⟨rfl, hb⟩
  have hS' := hS.keep hb
  obtain ⟨d0, d1, d2, d3, d4, d5⟩ := hS'.box.cells
  exact ⟨rfl, d0, d1, d2, d3, d4, d5, hS'⟩

/-- whether two lines count as the same -/
def eqL (o : Ig) (a b : List UInt8) : Bool := canonL o a == canonL o b
/-- whether a line counts as blank -/
def blankL (o : Ig) (a : List UInt8) : Bool := (bareL (canonL o a)).isEmpty

set_option maxHeartbeats 400000 in
theorem Equal_any (a b : List UInt8) (o : Ig) (w : World) (ha : a.length ≤ 137438953472) (hb : b.length ≤ 137438953472) :
    Calls Tryd.prog 11 #[.string ⟨a.toArray⟩, .string ⟨b.toArray⟩, igV o] w fun e w' => e = .returned (.bool (eqL o a b)) ∧ Below w.heap.size w w' := by
  have hbx : Stay o w.heap.size w (w.alloc (.cells #[.bool o.sp, .bool o.wt, .bool o.bl, .bool o.cs, .bool o.tb, .bool o.tr] 23)) := ⟨Boxed.fresh o w, (Below.refl _ w).alloc (Nat.le_refl _) _⟩
  unfold igV
  go_enter Tryd.func11, Tryd.ntmps11
  go_wp2_with fail
  have hd := hbx.box.cells
  generalize w.alloc (.cells #[.bool o.sp, .bool o.wt, .bool o.bl, .bool o.cs, .bool o.tb, .bool o.tr] 23) = wb at hbx hd ⊢
  obtain ⟨d0, d1, d2, d3, d4, d5⟩ := hd
  go_region_held3 (fun w' => w'.cell? ⟨w.heap.size, 0, none⟩ = some (.bool o.sp) ∧ w'.cell? ⟨w.heap.size, 1, none⟩ = some (.bool o.wt) ∧ w'.cell? ⟨w.heap.size, 2, none⟩ = some (.bool o.bl) ∧ w'.cell? ⟨w.heap.size, 3, none⟩ = some (.bool o.cs) ∧ w'.cell? ⟨w.heap.size, 4, none⟩ = some (.bool o.tb) ∧ w'.cell? ⟨w.heap.size, 5, none⟩ = some (.bool o.tr) ∧ Stay o w.heap.size w w') (go_keep)
    (first | (go_at_call 7; refine (stayed (Canon_any _ o _ (by assumption)) o w.heap.size w (by first | assumption | (rw [stay_drew]; assumption))).mono ?_; rintro e w' ⟨rfl, e0, e1, e2, e3, e4, e5, hbS⟩))
  go_wp2
  go_ret
  exact ⟨rfl, hbS.low⟩

set_option maxHeartbeats 1000000 in
theorem Blank_any (l : List UInt8) (o : Ig) (w : World) (hl : l.length ≤ 137438953472) :
    Calls Tryd.prog 13 #[.string ⟨l.toArray⟩, igV o] w fun e w' => e = .returned (.bool (blankL o l)) ∧ Below w.heap.size w w' := by
  have hcl := canon_len o l
  have hbx := Boxed.fresh o w
  have hb0 : Below w.heap.size w (w.alloc (.cells #[.bool o.sp, .bool o.wt, .bool o.bl, .bool o.cs, .bool o.tb, .bool o.tr] 23)) := (Below.refl _ w).alloc (Nat.le_refl _) _
  unfold igV
  go_enter Tryd.func13, Tryd.ntmps13
  go_wp2_with fail
  refine (Canon_any l o _ hl).mono ?_
  rintro e w1 ⟨rfl, hb1⟩
  have hb2 := hb0.trans (hb1.mono hb0.size)
  go_wp2_with fail
  refine (Bare_any (canonL o l) _ (by omega)).mono ?_
  rintro e w2 ⟨rfl, rfl⟩
  go_wp2
  go_ret
  exact ⟨rfl, hb2⟩

theorem wk1 : canonL ⟨true, false, false, false, false, false⟩ [32, 65, 9, 32, 98, 32, 10] = [32, 65, 32, 98, 10] := by decide +kernel
theorem wk2 : canonL ⟨false, true, false, true, false, false⟩ [32, 65, 9, 32, 98, 32, 10] = [97, 98, 10] := by decide +kernel
theorem wk3 : blankL ⟨false, false, false, false, false, true⟩ [32, 10] = true := by decide +kernel
theorem wk4 : eqL ⟨false, true, false, false, false, false⟩ [97] [97, 10] = false := by decide +kernel

set_option maxHeartbeats 1000000 in
theorem works_any (w : World) :
    Calls Tryd.prog 15 #[] w fun e w' => e = .returned (.bool true) ∧ Below w.heap.size w w' := by
  go_enter Tryd.func15, Tryd.ntmps15
  go_wp2_with fail
  refine (Canon_any [32, 65, 9, 32, 98, 32, 10] ⟨true, false, false, false, false, false⟩ _ (by simp)).mono ?_
  rintro e w1 ⟨rfl, hb1⟩
  rw [wk1]
  go_wp2_with fail
  refine (Canon_any [32, 65, 9, 32, 98, 32, 10] ⟨false, true, false, true, false, false⟩ _ (by simp)).mono ?_
  rintro e w2 ⟨rfl, hb2⟩
  rw [wk2]
  go_wp2_with fail
  refine (Blank_any [32, 10] ⟨false, false, false, false, false, true⟩ _ (by simp)).mono ?_
  rintro e w3 ⟨rfl, hb3⟩
  rw [wk3]
  go_wp2_with fail
  refine (Equal_any [97] [97, 10] ⟨false, true, false, false, false, false⟩ _ (by simp) (by simp)).mono ?_
  rintro e w4 ⟨rfl, hb4⟩
  rw [wk4]
  go_wp2
  go_ret
  have h2 := hb1.trans (hb2.mono hb1.size)
  have h3 := h2.trans (hb3.mono h2.size)
  exact ⟨rfl, h3.trans (hb4.mono h3.size)⟩
end Go.Proofs.YtdoennggmckldaaDoor
