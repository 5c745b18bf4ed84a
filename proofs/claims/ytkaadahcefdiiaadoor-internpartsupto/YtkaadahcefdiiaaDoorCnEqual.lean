/-
  Equal of layer canon, walked.
-/
import Derived.Test.YtkaadahcefdiiaaDoorCnCanon
namespace Go.Proofs.YtkaadahcefdiiaaDoor
open Cn Go.RowKit
attribute [local go_sem] ba_at ByteArray.extract_mk ba_cat

/-- a variable that holds what is ignored, and all below it as it was -/
structure Stay (o : Ig) (b : Nat) (W w : World) : Prop where
  box : Boxed o b w
  low : Below W.heap.size W w
theorem Stay.keep {o : Ig} {b : Nat} {W w w' : World} (h : Stay o b W w) (hb : Below w.heap.size w w') : Stay o b W w' := ⟨h.box.keep hb, h.low.trans (hb.mono h.low.size)⟩
theorem stay_drew (o : Ig) (b : Nat) (W w : World) : Stay o b W w.drew ↔ Stay o b W w := ⟨fun h => ⟨h.box, (h.low.trans ⟨rfl, rfl, rfl, Nat.le_refl _, fun _ _ => rfl⟩ : Below W.heap.size W w)⟩, fun h => ⟨h.box, h.low.drew⟩⟩
attribute [local simp] stay_drew

/-- a call that leaves all below as it was leaves that variable, too -/
theorem stayed {P : Program} {f : FuncId} {args : Array Value} {v : Value} {w : World} (h : Calls P f args w fun e w' => e = .returned v ∧ Below w.heap.size w w') (o : Ig) (b : Nat) (W : World) (hS : Stay o b W w) :
    Calls P f args w fun e w' => e = .returned v ∧ w'.cell? ⟨b, 0, none⟩ = some (.bool o.sp) ∧ w'.cell? ⟨b, 1, none⟩ = some (.bool o.wt) ∧ w'.cell? ⟨b, 2, none⟩ = some (.bool o.bl) ∧ w'.cell? ⟨b, 3, none⟩ = some (.bool o.cs) ∧ w'.cell? ⟨b, 4, none⟩ = some (.bool o.tb) ∧ w'.cell? ⟨b, 5, none⟩ = some (.bool o.tr) ∧ Stay o b W w' := by
  refine h.mono ?_
  rintro e w' ⟨rfl, hb⟩
  have hS' := hS.keep hb
  obtain ⟨d0, d1, d2, d3, d4, d5⟩ := hS'.box.cells
  exact ⟨rfl, d0, d1, d2, d3, d4, d5, hS'⟩

/-- whether two lines count as the same -/
def eqL (o : Ig) (a b : List UInt8) : Bool := canonL o a == canonL o b

set_option maxHeartbeats 400000 in
theorem Equal_any (a b : List UInt8) (o : Ig) (w : World) (ha : a.length ≤ 137438953472) (hb : b.length ≤ 137438953472) :
    Calls Tryd.prog 18 #[.string ⟨a.toArray⟩, .string ⟨b.toArray⟩, igV o] w fun e w' => e = .returned (.bool (eqL o a b)) ∧ Below w.heap.size w w' := by
  have hbx : Stay o w.heap.size w (w.alloc (.cells #[.bool o.sp, .bool o.wt, .bool o.bl, .bool o.cs, .bool o.tb, .bool o.tr] 24)) := ⟨Boxed.fresh o w, (Below.refl _ w).alloc (Nat.le_refl _) _⟩
  unfold igV
  go_enter Tryd.func18, Tryd.ntmps18
  go_wp2_with fail
  have hd := hbx.box.cells
  generalize w.alloc (.cells #[.bool o.sp, .bool o.wt, .bool o.bl, .bool o.cs, .bool o.tb, .bool o.tr] 24) = wb at hbx hd ⊢
  obtain ⟨d0, d1, d2, d3, d4, d5⟩ := hd
  go_region_held3 (fun w' => w'.cell? ⟨w.heap.size, 0, none⟩ = some (.bool o.sp) ∧ w'.cell? ⟨w.heap.size, 1, none⟩ = some (.bool o.wt) ∧ w'.cell? ⟨w.heap.size, 2, none⟩ = some (.bool o.bl) ∧ w'.cell? ⟨w.heap.size, 3, none⟩ = some (.bool o.cs) ∧ w'.cell? ⟨w.heap.size, 4, none⟩ = some (.bool o.tb) ∧ w'.cell? ⟨w.heap.size, 5, none⟩ = some (.bool o.tr) ∧ Stay o w.heap.size w w') (go_keep)
    (first | (go_at_call 20; refine (stayed (Canon_any _ o _ (by assumption)) o w.heap.size w (by first | assumption | (rw [stay_drew]; assumption))).mono ?_; rintro e w' ⟨rfl, e0, e1, e2, e3, e4, e5, hbS⟩))
  go_wp2
  go_ret
  exact ⟨rfl, hbS.low⟩
end Go.Proofs.YtkaadahcefdiiaaDoor
