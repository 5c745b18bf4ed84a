/-
  What is ignored, as a value and as a variable's cells; the steps of the reference's text, walked one behind the other.
-/
import Derived.Test.YtkaadahcefdiiaaDoorCnRef2
import Derived.Test.YtkaadahcefdiiaaDoorCnSmall
import Derived.Deep.CutRange
import Derived.Deep.DeepCutAuto
namespace Go.Proofs.YtkaadahcefdiiaaDoor
open Cn Go.RowKit
attribute [local go_sem] ba_at ByteArray.extract_mk

/-- what is ignored, as a value -/
def igV (o : Ig) : Value := .agg #[.bool o.sp, .bool o.wt, .bool o.bl, .bool o.cs, .bool o.tb, .bool o.tr]
/-- a variable that holds it -/
def Boxed (o : Ig) (b : Nat) (w : World) : Prop := w.heap[b]? = some (.cells #[.bool o.sp, .bool o.wt, .bool o.bl, .bool o.cs, .bool o.tb, .bool o.tr] 24 (0, 0))
theorem Boxed.keep {o : Ig} {b : Nat} {w w' : World} (h : Boxed o b w) (hb : Below w.heap.size w w') : Boxed o b w' :=
  (hb.block b (Array.getElem?_eq_some_iff.1 h).1).trans h
theorem Boxed.fresh (o : Ig) (w : World) : Boxed o w.heap.size (w.alloc (.cells #[.bool o.sp, .bool o.wt, .bool o.bl, .bool o.cs, .bool o.tb, .bool o.tr] 24)) := _root_.Go.heap_alloc_new w _
theorem Boxed.cells {o : Ig} {b : Nat} {w : World} (h : Boxed o b w) : w.cell? ⟨b, 0, none⟩ = some (.bool o.sp) ∧ w.cell? ⟨b, 1, none⟩ = some (.bool o.wt) ∧ w.cell? ⟨b, 2, none⟩ = some (.bool o.bl) ∧ w.cell? ⟨b, 3, none⟩ = some (.bool o.cs) ∧ w.cell? ⟨b, 4, none⟩ = some (.bool o.tb) ∧ w.cell? ⟨b, 5, none⟩ = some (.bool o.tr) := by
  refine ⟨?_, ?_, ?_, ?_, ?_, ?_⟩ <;> rw [Lib.cell_of_heap h] <;> rfl

theorem stg_no {o : Ig} {k : Nat} (h : Cn.ask o k = false) (l : List UInt8) : stg o (k + 1) l = stg o k l := by rw [stg, h]; rfl
theorem stg_yes {o : Ig} {k : Nat} (h : Cn.ask o k = true) (l : List UInt8) : stg o (k + 1) l = act k (stg o k l) := by rw [stg, h]; rfl

set_option maxHeartbeats 1000000 in
theorem refText_any (l : List UInt8) (o : Ig) (w : World) (hl : l.length ≤ 137438953472) :
    Calls Tryd.prog 32 #[.string ⟨l.toArray⟩, igV o] w fun e w' => e = .returned (.string ⟨(stg o 5 l).toArray⟩) ∧ Below w.heap.size w w' := by
  have g1 := stg_len o l 1
  have g2 := stg_len o l 2
  have g3 := stg_len o l 3
  have g4 := stg_len o l 4
  have hbx := Boxed.fresh o w
  have hb0 : Below w.heap.size w (w.alloc (.cells #[.bool o.sp, .bool o.wt, .bool o.bl, .bool o.cs, .bool o.tb, .bool o.tr] 24)) := (Below.refl _ w).alloc (Nat.le_refl _) _
  unfold igV
  go_enter Tryd.func32, Tryd.ntmps32
  go_upto_if 6 with fail
  generalize w.alloc (.cells #[.bool o.sp, .bool o.wt, .bool o.bl, .bool o.cs, .bool o.tb, .bool o.tr] 24) = wb at hbx hb0 ⊢
  go_cut [0, 1] (fun z _ wz => z = .string ⟨(stg o 1 l).toArray⟩ ∧ Boxed o w.heap.size wz ∧ Below w.heap.size w wz)
  case first =>
    have hz := hb0.size
    cases hq : o.tb
    · have HS : Hid (stg o 1 l = l) := (stg_no (k := 0) hq l)
      clear hq
      go_wp2
      go_meet
      case rel => exact ⟨by rw [HS.out], hbx, hb0⟩
    · have HS : Hid (stg o 1 l = act 0 l) := (stg_yes (k := 0) hq l)
      clear hq
      go_wp2_with fail
      refine (refExpand_any l _ (by omega)).mono ?_
      rintro e w1 ⟨rfl, hb1⟩
      go_wp2
      go_meet
      case rel => exact ⟨by rw [HS.out]; rfl, (hbx.keep hb1), (hb0.trans (hb1.mono hz))⟩
  case rest =>
    obtain ⟨rfl, hbx, hb0⟩ := hcut
    have hd := hbx.cells
    obtain ⟨d0, d1, d2, d3, d4, d5⟩ := hd
    generalize hr1 : stg o 1 l = r1 at *
    go_upto_if 10 with fail
    clear d0 d1 d2 d3 d4 d5
    go_cut [0, 1] (fun z _ wz => z = .string ⟨(stg o 2 l).toArray⟩ ∧ Boxed o w.heap.size wz ∧ Below w.heap.size w wz)
    case first =>
      have hz := hb0.size
      cases hq : o.wt
      · have HS : Hid (stg o 2 l = r1) := (stg_no (k := 1) hq l).trans hr1
        clear hq
        go_wp2
        go_meet
        case rel => exact ⟨by rw [HS.out], hbx, hb0⟩
      · have HS : Hid (stg o 2 l = act 1 r1) := (stg_yes (k := 1) hq l).trans (congrArg _ hr1)
        clear hq
        go_wp2_with fail
        refine (refWithout_any r1 false _ (by omega)).mono ?_
        rintro e w1 ⟨rfl, hb1⟩
        go_wp2
        go_meet
        case rel => exact ⟨by rw [HS.out]; rfl, (hbx.keep hb1), (hb0.trans (hb1.mono hz))⟩
    case rest =>
      obtain ⟨rfl, hbx, hb0⟩ := hcut
      have hd := hbx.cells
      obtain ⟨d0, d1, d2, d3, d4, d5⟩ := hd
      generalize hr2 : stg o 2 l = r2 at *
      go_upto_if 14 with fail
      clear d0 d1 d2 d3 d4 d5
      go_cut [0, 1] (fun z _ wz => z = .string ⟨(stg o 3 l).toArray⟩ ∧ Boxed o w.heap.size wz ∧ Below w.heap.size w wz)
      case first =>
        have hz := hb0.size
        cases hq : o.sp
        · have HS : Hid (stg o 3 l = r2) := (stg_no (k := 2) hq l).trans hr2
          clear hq
          go_wp2
          go_meet
          case rel => exact ⟨by rw [HS.out], hbx, hb0⟩
        · have HS : Hid (stg o 3 l = act 2 r2) := (stg_yes (k := 2) hq l).trans (congrArg _ hr2)
          clear hq
          go_wp2_with fail
          refine (refWithout_any r2 true _ (by omega)).mono ?_
          rintro e w1 ⟨rfl, hb1⟩
          go_wp2_with fail
          refine (refTrail_any (wo true false r2) _ (by have := wo_len true r2 false; omega)).mono ?_
          rintro e w2 ⟨rfl, rfl⟩
          go_wp2
          go_meet
          case rel => exact ⟨by rw [HS.out]; rfl, (hbx.keep hb1), (hb0.trans (hb1.mono hz))⟩
      case rest =>
        obtain ⟨rfl, hbx, hb0⟩ := hcut
        have hd := hbx.cells
        obtain ⟨d0, d1, d2, d3, d4, d5⟩ := hd
        generalize hr3 : stg o 3 l = r3 at *
        go_upto_if 19 with fail
        clear d0 d1 d2 d3 d4 d5
        go_cut [0, 1] (fun z _ wz => z = .string ⟨(stg o 4 l).toArray⟩ ∧ Boxed o w.heap.size wz ∧ Below w.heap.size w wz)
        case first =>
          have hz := hb0.size
          cases hq : o.tr
          · have HS : Hid (stg o 4 l = r3) := (stg_no (k := 3) hq l).trans hr3
            clear hq
            go_wp2
            go_meet
            case rel => exact ⟨by rw [HS.out], hbx, hb0⟩
          · have HS : Hid (stg o 4 l = act 3 r3) := (stg_yes (k := 3) hq l).trans (congrArg _ hr3)
            clear hq
            go_wp2_with fail
            refine (refTrail_any r3 _ (by omega)).mono ?_
            rintro e w1 ⟨rfl, rfl⟩
            go_wp2
            go_meet
            case rel => exact ⟨by rw [HS.out]; rfl, hbx, hb0⟩
        case rest =>
          obtain ⟨rfl, hbx, hb0⟩ := hcut
          have hd := hbx.cells
          obtain ⟨d0, d1, d2, d3, d4, d5⟩ := hd
          generalize hr4 : stg o 4 l = r4 at *
          go_upto_if 23 with fail
          clear d0 d1 d2 d3 d4 d5
          go_cut [0, 1] (fun z _ wz => z = .string ⟨(stg o 5 l).toArray⟩ ∧ Boxed o w.heap.size wz ∧ Below w.heap.size w wz)
          case first =>
            have hz := hb0.size
            cases hq : o.cs
            · have HS : Hid (stg o 5 l = r4) := (stg_no (k := 4) hq l).trans hr4
              clear hq
              go_wp2
              go_meet
              case rel => exact ⟨by rw [HS.out], hbx, hb0⟩
            · have HS : Hid (stg o 5 l = act 4 r4) := (stg_yes (k := 4) hq l).trans (congrArg _ hr4)
              clear hq
              go_wp2_with fail
              refine (refSmall_any r4 _ (by omega)).mono ?_
              rintro e w1 ⟨rfl, hb1⟩
              go_wp2
              go_meet
              case rel => exact ⟨by rw [HS.out]; rfl, (hbx.keep hb1), (hb0.trans (hb1.mono hz))⟩
          case rest =>
            obtain ⟨rfl, hbx, hb0⟩ := hcut
            go_wp2
            go_ret
            exact ⟨rfl, hb0⟩
end Go.Proofs.YtkaadahcefdiiaaDoor
