/-
  Layer canon's form of a line, walked: it is what the plain function canonL says. Then Equal and Blank.
-/
import Derived.Test.YtkaadahcefdiiaaDoorCnSteps
import Derived.Test.YtkaadahcefdiiaaDoorCnOne
import Derived.Deep.RegionHeld3
import Derived.Laws.EntriesVeiled
namespace Go.Proofs.YtkaadahcefdiiaaDoor
open Cn Go.RowKit
attribute [local go_sem] ba_at ByteArray.extract_mk ba_cat

set_option maxHeartbeats 2000000 in
theorem Canon_any (l : List UInt8) (o : Ig) (w : World) (hl : l.length ≤ 137438953472) :
    Calls Tryd.prog 20 #[.string ⟨l.toArray⟩, igV o] w fun e w' => e = .returned (.string ⟨(canonL o l).toArray⟩) ∧ Below w.heap.size w w' := by
  have hbl := bare_len l
  have hbx := Boxed.fresh o w
  have hb0 : Below w.heap.size w (w.alloc (.cells #[.bool o.sp, .bool o.wt, .bool o.bl, .bool o.cs, .bool o.tb, .bool o.tr] 24)) := (Below.refl _ w).alloc (Nat.le_refl _) _
  have HC : Hid (canonL o l = stg o 5 (bareL l) ++ feedL l) := rfl
  unfold igV
  go_enter Tryd.func20, Tryd.ntmps20
  go_wp2_with fail
  refine (Bare_any l _ (by omega)).mono ?_
  rintro e w1 ⟨rfl, rfl⟩
  have hd := hbx.cells
  have hz := hb0.size
  generalize w.alloc (.cells #[.bool o.sp, .bool o.wt, .bool o.bl, .bool o.cs, .bool o.tb, .bool o.tr] 24) = wb at hbx hb0 hd hz ⊢
  obtain ⟨d0, d1, d2, d3, d4, d5⟩ := hd
  generalize hbr : bareL l = r at *
  go_wp2_with fail
  refine (steps_any o _).mono ?_
  rintro e w2 ⟨g, rfl, hst, hb2⟩
  have hb3 := hb0.trans (hb2.mono hz)
  clear d0 d1 d2 d3 d4 d5 hb2 hbx hb0 hz
  go_wp2
  go_loopw [5, 8, 17] (fun t _ i wr => ∃ k : Nat, k ≤ 5 ∧ i = .int .i64 k ∧ t = .string ⟨(stg o k r).toArray⟩ ∧ Stepped o g wr ∧ Below w.heap.size w wr) (fun _ _ i _ => 5 - (intOf i).toNat)
  case atStart => exact ⟨0, Nat.zero_le _, rfl, rfl, hst, hb3⟩
  case round =>
    obtain ⟨k, hk, rfl, rfl, hst, hbr⟩ := hrel
    have hsl := stg_len o r k
    have hz := hbr.size
    rcases (show k = 0 ∨ k = 1 ∨ k = 2 ∨ k = 3 ∨ k = 4 ∨ k = 5 by omega) with rfl | rfl | rfl | rfl | rfl | rfl
    · have c0 : wr.cell? ⟨g, 0, none⟩ = some (.bool o.tb) := by rw [Lib.cell_of_heap hst]; rfl
      have c1 : wr.cell? ⟨g, 1, none⟩ = some (.func (.func 26) #[] #[]) := by rw [Lib.cell_of_heap hst]; rfl
      generalize hx : stg o 0 r = x at *
      cases hq : o.tb
      · have HS : Hid (stg o 1 r = x) := (stg_no (k := 0) hq r).trans hx
        rw [hq] at c0
        clear hq hx
        go_wp2
        go_roundw
        case rel => exact ⟨1, by omega, by go_num, by rw [HS.out], hst.keep ((Below.refl _ wr).alloc (Nat.le_refl _) _), hbr.alloc hz _⟩
        case measure => simp [intOf]
      · have HS : Hid (stg o 1 r = act 0 x) := (stg_yes (k := 0) hq r).trans (congrArg _ hx)
        rw [hq] at c0
        clear hq hx
        go_wp2_with fail
        refine (Expand_any x _ (by omega)).mono ?_
        rintro e w4 ⟨rfl, hb4⟩
        have hb5 := (Below.refl _ wr).alloc (Nat.le_refl wr.heap.size) (.cells #[.bool true, .func (.func 26) #[] #[]] 55)
        have hb6 := hb5.trans (hb4.mono hb5.size)
        go_wp2
        go_roundw
        case rel => exact ⟨1, by omega, by go_num, by rw [HS.out]; rfl, hst.keep hb6, hbr.trans (hb6.mono hz)⟩
        case measure => simp [intOf]
    · have c0 : wr.cell? ⟨g, 2, none⟩ = some (.bool o.wt) := by rw [Lib.cell_of_heap hst]; rfl
      have c1 : wr.cell? ⟨g, 3, none⟩ = some (.func (.func 27) #[] #[]) := by rw [Lib.cell_of_heap hst]; rfl
      generalize hx : stg o 1 r = x at *
      cases hq : o.wt
      · have HS : Hid (stg o 2 r = x) := (stg_no (k := 1) hq r).trans hx
        rw [hq] at c0
        clear hq hx
        go_wp2
        go_roundw
        case rel => exact ⟨2, by omega, by go_num, by rw [HS.out], hst.keep ((Below.refl _ wr).alloc (Nat.le_refl _) _), hbr.alloc hz _⟩
        case measure => simp [intOf]
      · have HS : Hid (stg o 2 r = act 1 x) := (stg_yes (k := 1) hq r).trans (congrArg _ hx)
        rw [hq] at c0
        clear hq hx
        go_wp2_with fail
        refine (withoutWhite_any x _ (by omega)).mono ?_
        rintro e w4 ⟨rfl, hb4⟩
        have hb5 := (Below.refl _ wr).alloc (Nat.le_refl wr.heap.size) (.cells #[.bool true, .func (.func 27) #[] #[]] 55)
        have hb6 := hb5.trans (hb4.mono hb5.size)
        go_wp2
        go_roundw
        case rel => exact ⟨2, by omega, by go_num, by rw [HS.out]; rfl, hst.keep hb6, hbr.trans (hb6.mono hz)⟩
        case measure => simp [intOf]
    · have c0 : wr.cell? ⟨g, 4, none⟩ = some (.bool o.sp) := by rw [Lib.cell_of_heap hst]; rfl
      have c1 : wr.cell? ⟨g, 5, none⟩ = some (.func (.func 28) #[] #[]) := by rw [Lib.cell_of_heap hst]; rfl
      generalize hx : stg o 2 r = x at *
      cases hq : o.sp
      · have HS : Hid (stg o 3 r = x) := (stg_no (k := 2) hq r).trans hx
        rw [hq] at c0
        clear hq hx
        go_wp2
        go_roundw
        case rel => exact ⟨3, by omega, by go_num, by rw [HS.out], hst.keep ((Below.refl _ wr).alloc (Nat.le_refl _) _), hbr.alloc hz _⟩
        case measure => simp [intOf]
      · have HS : Hid (stg o 3 r = act 2 x) := (stg_yes (k := 2) hq r).trans (congrArg _ hx)
        rw [hq] at c0
        clear hq hx
        go_wp2_with fail
        refine (withOneBlank_any x _ (by omega)).mono ?_
        rintro e w4 ⟨rfl, hb4⟩
        have hb5 := (Below.refl _ wr).alloc (Nat.le_refl wr.heap.size) (.cells #[.bool true, .func (.func 28) #[] #[]] 55)
        have hb6 := hb5.trans (hb4.mono hb5.size)
        go_wp2
        go_roundw
        case rel => exact ⟨3, by omega, by go_num, by rw [HS.out]; rfl, hst.keep hb6, hbr.trans (hb6.mono hz)⟩
        case measure => simp [intOf]
    · have c0 : wr.cell? ⟨g, 6, none⟩ = some (.bool o.tr) := by rw [Lib.cell_of_heap hst]; rfl
      have c1 : wr.cell? ⟨g, 7, none⟩ = some (.func (.func 29) #[] #[]) := by rw [Lib.cell_of_heap hst]; rfl
      generalize hx : stg o 3 r = x at *
      cases hq : o.tr
      · have HS : Hid (stg o 4 r = x) := (stg_no (k := 3) hq r).trans hx
        rw [hq] at c0
        clear hq hx
        go_wp2
        go_roundw
        case rel => exact ⟨4, by omega, by go_num, by rw [HS.out], hst.keep ((Below.refl _ wr).alloc (Nat.le_refl _) _), hbr.alloc hz _⟩
        case measure => simp [intOf]
      · have HS : Hid (stg o 4 r = act 3 x) := (stg_yes (k := 3) hq r).trans (congrArg _ hx)
        rw [hq] at c0
        clear hq hx
        go_wp2_with fail
        refine (withoutTrail_any x _ (by omega)).mono ?_
        rintro e w4 ⟨rfl, hb4⟩
        have hb5 := (Below.refl _ wr).alloc (Nat.le_refl wr.heap.size) (.cells #[.bool true, .func (.func 29) #[] #[]] 55)
        have hb6 := hb5.trans (hb4.mono hb5.size)
        go_wp2
        go_roundw
        case rel => exact ⟨4, by omega, by go_num, by rw [HS.out]; rfl, hst.keep hb6, hbr.trans (hb6.mono hz)⟩
        case measure => simp [intOf]
    · have c0 : wr.cell? ⟨g, 8, none⟩ = some (.bool o.cs) := by rw [Lib.cell_of_heap hst]; rfl
      have c1 : wr.cell? ⟨g, 9, none⟩ = some (.func (.func 30) #[] #[]) := by rw [Lib.cell_of_heap hst]; rfl
      generalize hx : stg o 4 r = x at *
      cases hq : o.cs
      · have HS : Hid (stg o 5 r = x) := (stg_no (k := 4) hq r).trans hx
        rw [hq] at c0
        clear hq hx
        go_wp2
        go_roundw
        case rel => exact ⟨5, by omega, by go_num, by rw [HS.out], hst.keep ((Below.refl _ wr).alloc (Nat.le_refl _) _), hbr.alloc hz _⟩
        case measure => simp [intOf]
      · have HS : Hid (stg o 5 r = act 4 x) := (stg_yes (k := 4) hq r).trans (congrArg _ hx)
        rw [hq] at c0
        clear hq hx
        go_wp2_with fail
        refine (inSmall_any x _ (by omega)).mono ?_
        rintro e w4 ⟨rfl, hb4⟩
        have hb5 := (Below.refl _ wr).alloc (Nat.le_refl wr.heap.size) (.cells #[.bool true, .func (.func 30) #[] #[]] 55)
        have hb6 := hb5.trans (hb4.mono hb5.size)
        go_wp2
        go_roundw
        case rel => exact ⟨5, by omega, by go_num, by rw [HS.out]; rfl, hst.keep hb6, hbr.trans (hb6.mono hz)⟩
        case measure => simp [intOf]
    · cases hf : feedB l
      · have HF : Hid (feedL l = []) := by show _ = _; rw [feedL, hf]; rfl
        go_wp2
        go_ret
        rw [HC.out, HF.out, List.append_nil]
        exact ⟨rfl, hbr⟩
      · have HF : Hid (feedL l = [10]) := by show _ = _; rw [feedL, hf]; rfl
        go_wp2
        go_ret
        rw [HC.out, HF.out]
        exact ⟨rfl, hbr⟩
end Go.Proofs.YtkaadahcefdiiaaDoor
