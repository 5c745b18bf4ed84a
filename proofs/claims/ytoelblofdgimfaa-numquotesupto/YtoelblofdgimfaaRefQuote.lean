/-
  The plain Quote of the reference, walked: what it returns is the plain function quote of the text.
-/
import Derived.Test.YtoelblofdgimfaaLeaf
namespace Go.Proofs.Ytoelblofdgimfaa
open Q Go.RowKit
attribute [local go_sem] ba_at hexl_at

set_option maxHeartbeats 2000000 in
set_option maxRecDepth 100000 in
theorem refQuote_any (l : List UInt8) (w : World) (hl : l.length ≤ 1099511627776) :
    Calls Try.prog 7 #[.string ⟨l.toArray⟩] w fun e w' => e = .returned (.string ⟨(quote l).toArray⟩) ∧ Below w.heap.size w w' := by
  obtain ⟨i0, hi, hz0, hz1, hz2⟩ := info_parts infoU8
  go_enter Try.func7, Try.ntmps7
  go_wp2
  go_loopw [3, 4] (fun out i wr => ∃ (k : Nat) (acc : List UInt8), k ≤ l.length ∧ i = .int .i64 k ∧ wr.ownsRowF w.heap.size 5 1 out acc.length (Lib.byteCells acc) ∧ Below w.heap.size w wr ∧ acc ++ qbody (l.drop k) = [34] ++ qbody l ∧ acc.length ≤ 3 * k + 1) (fun _ i _ => l.length - (intOf i).toNat)
  case atStart =>
    refine ⟨0, [34], Nat.zero_le _, rfl, ?_, (Below.refl _ w).alloc (Nat.le_refl _) _, rfl, by simp⟩
    exact ⟨rfl, .inr ⟨w.heap.size, 1, _, (0, 0), rfl, Nat.le_refl _, _root_.Go.heap_alloc_new w _, by simp, by simp, by simp [maxLen], rfl, rfl⟩⟩
  case round =>
    obtain ⟨k, acc, hk, rfl, hown, hbr, hacc, hal⟩ := hrel
    by_cases hlt : k < l.length
    · have hdk : l.drop k = l[k] :: l.drop (k + 1) := List.drop_eq_getElem_cons hlt
      have HD : Hid (acc ++ (q1 l[k] ++ qbody (l.drop (k + 1))) = [34] ++ qbody l) := by
        rw [hdk] at hacc
        exact hacc
      clear hacc hdk
      have hx : l[k].toNat < 256 := (l[k]).toNat_lt
      go_wp2_with fail
      refine (plain_any _ _).mono ?_
      rintro e w' ⟨rfl, rfl⟩
      cases hpl : plainI l[k].toNat
      · have HP : Hid (q1 l[k] = [92, hexc (l[k].toNat / 16), hexc (l[k].toNat % 16)]) := by
          show q1 l[k] = _
          simp [q1, hpl]
        have hw1 : IntKind.u8.wrap ((l[k].toNat : Int) / 16) = (l[k].toNat : Int) / 16 := wrap_u8 (by omega) (by omega)
        have hw2 : ((l[k].toNat : Int)).tmod 16 = (l[k].toNat : Int) % 16 := Int.tmod_eq_emod_of_nonneg (by omega)
        have hd1 : ((l[k].toNat : Int) / 16) < 16 := by omega
        have hd2 : ((l[k].toNat : Int) % 16) < 16 := by omega
        have hd3 : 0 ≤ ((l[k].toNat : Int) / 16) := by omega
        have hd4 : 0 ≤ ((l[k].toNat : Int) % 16) := by omega
        have e1 : ((l[k].toNat : Int) / 16).toNat = l[k].toNat / 16 := by omega
        have e2 : ((l[k].toNat : Int) % 16).toNat = l[k].toNat % 16 := by omega
        go_wp2_with fail
        go_region_law (refine step_append_ownX rfl (.tmp 22) (.tmp 33) 28 rfl w.heap.size 5 i0 (.int .u8 0) 1 1 Try.underlying28 hi hz0 hz1 hz2 rfl (by decide) u3 acc.length (Lib.byteCells acc) (by simp [Act.eval]) (hown.alloc _) ⟨wr.heap.size, 0, none⟩ 3 3 [.int .u8 92, .int .u8 (hexc (l[k].toNat / 16)).toNat, .int .u8 (hexc (l[k].toNat % 16)).toNat] (by simp [Act.eval]) rfl (new_cells _ _ _) (by simp [Value.oneCell']) (by unfold maxLen; omega) (by omega) (by have := hbr.size; simp; omega) ?_; intro v' w2 hown' hgrow hfr)
        all_goals
          go_wp2
          go_roundw
          case rel =>
            refine ⟨k + 1, acc ++ [92, hexc (l[k].toNat / 16), hexc (l[k].toNat % 16)], by omega, by go_num, ?_, (hbr.drew.alloc hbr.size _).grown hgrow (by have := hbr.size; simp; omega) (fun j hj => (hown.lt j hj).1), by rw [← HD.out, HP.out]; simp, by simp; omega⟩
            rw [Lib.byteCells_append]
            simpa [Lib.byteCells] using hown'
          case measure => simp [intOf]; omega
      · have HP : Hid (q1 l[k] = [l[k]]) := by
          show q1 l[k] = _
          simp [q1, hpl]
        go_wp2_with (at_builtin; refine wpList_append_ownX _ rfl _ _ 28 rfl w.heap.size 5 i0 (.int .u8 0) 1 1 Try.underlying28 hi hz0 hz1 hz2 rfl (by decide) _ _ _ rfl (hown.alloc _) ⟨wr.heap.size, 0, none⟩ 1 1 [.int .u8 (l[k].toNat : Int)] rfl rfl (new_cells _ _ _) (one_cell _ _) ?c3 ?c4 ?c5 ?_)
        case c3 => unfold maxLen; omega
        case c4 => omega
        case c5 => have := hbr.size; simp; omega
        intro v' w2 hown' hgrow hfr
        go_wp2
        go_roundw
        case rel => exact ⟨k + 1, acc ++ [l[k]], by omega, by go_num, by rw [byteCells_snoc]; simpa using hown', (hbr.alloc hbr.size _).grown hgrow (by have := hbr.size; simp; omega) (fun j hj => (hown.lt j hj).1), by rw [← HD.out, HP.out]; simp, by simp; omega⟩
        case measure => simp [intOf]; omega
    · have HD : Hid (acc = [34] ++ qbody l) := by
        have e : l.drop k = [] := List.drop_eq_nil_of_le (by omega)
        rw [e] at hacc
        show acc = _
        simpa [qbody] using hacc
      clear hacc
      go_wp2_with (at_builtin; refine wpList_append_ownX _ rfl _ _ 28 rfl w.heap.size 5 i0 (.int .u8 0) 1 1 Try.underlying28 hi hz0 hz1 hz2 rfl (by decide) _ _ _ rfl (hown.alloc _) ⟨wr.heap.size, 0, none⟩ 1 1 [.int .u8 34] rfl rfl (new_cells _ _ _) (one_cell _ _) ?c3 ?c4 ?c5 ?_)
      case c3 => unfold maxLen; omega
      case c4 => omega
      case c5 => have := hbr.size; simp; omega
      intro v' w2 hown' hgrow hfr
      have hcs := conv_string (P := Try.prog) w2 28 9 5 w.heap.size v' (acc ++ [34]) Try.underlying28 Try.underlying5 Try.underlying9 (by rw [byteCells_snoc]; simpa using hown')
      go_wp2
      go_ret
      rw [HD.out]
      exact ⟨rfl, (hbr.alloc hbr.size _).grown hgrow (by have := hbr.size; simp; omega) (fun j hj => (hown.lt j hj).1)⟩
end Go.Proofs.Ytoelblofdgimfaa
