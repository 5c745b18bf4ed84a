/-
  The plain functions of the reference of layer canon, walked: a text without white space or with one blank for each run of it, and a text with blanks in the place of tabs.
-/
import Derived.Test.YtkaadahcefdiiaaDoorCnRef
namespace Go.Proofs.YtkaadahcefdiiaaDoor
open Cn Go.RowKit
attribute [local go_sem] ba_at ByteArray.extract_mk

/-- whether a run of white space is under way ahead of a place -/
def wasAt (l : List UInt8) (k : Nat) : Bool := decide (0 < k) && (l[k - 1]?.map wh).getD false
theorem was_next {l : List UInt8} {k : Nat} (h : k < l.length) : wasAt l (k + 1) = wh l[k] := by
  unfold wasAt
  rw [decide_eq_true (Nat.succ_pos k), Nat.add_sub_cancel, List.getElem?_eq_getElem h]; rfl
theorem was_prev {l : List UInt8} {k : Nat} (h0 : 0 < k) (h : k - 1 < l.length) : wasAt l k = wh l[k - 1] := by
  unfold wasAt
  rw [decide_eq_true h0, List.getElem?_eq_getElem h]; rfl
theorem wo_white_none {c : UInt8} (h : wh c = true) {blank was : Bool} (hb : (blank && !was) = false) (r : List UInt8) : wo blank was (c :: r) = wo blank true r := by simp [wo, h, hb]

set_option maxRecDepth 10000 in
set_option maxHeartbeats 2000000 in
theorem refWithout_any (l : List UInt8) (blank : Bool) (w : World) (hl : l.length ≤ 1099511627776) :
    Calls Tryd.prog 42 #[.string ⟨l.toArray⟩, .bool blank] w fun e w' => e = .returned (.string ⟨(wo blank false l).toArray⟩) ∧ Below w.heap.size w w' := by
  obtain ⟨i0, hi, hz0, hz1, hz2⟩ := info_parts infoU8
  have hwl := wo_len blank l false
  go_enter Tryd.func42, Tryd.ntmps42
  go_wp2
  go_loopw [5, 6] (fun out i wr => ∃ (k : Nat) (acc : List UInt8), k ≤ l.length ∧ i = .int .i64 k ∧ wr.ownsRowF w.heap.size 5 1 out acc.length (Lib.byteCells acc) ∧ Below w.heap.size w wr ∧ acc ++ wo blank (wasAt l k) (l.drop k) = wo blank false l) (fun _ i _ => l.length - (intOf i).toNat)
  case atStart => exact ⟨0, [], Nat.zero_le _, rfl, World.ownsRowF_of (World.ownsRow_nil _ _ _ _), Below.refl _ _, rfl⟩
  case round =>
    obtain ⟨k, acc, hk, rfl, hown, hbr, hacc⟩ := hrel
    have hal : acc.length ≤ l.length := by
      have := congrArg List.length hacc
      rw [List.length_append] at this
      omega
    have hbz := hbr.size
    by_cases hlt : k < l.length
    · have hdk : l.drop k = l[k] :: l.drop (k + 1) := List.drop_eq_getElem_cons hlt
      rw [hdk] at hacc
      clear hdk
      have hnx := was_next hlt
      go_wp2_with fail
      refine (white_any l[k] _).mono ?_
      rintro e w1 ⟨rfl, rfl⟩
      cases hc : wh l[k]
      · have HD : Hid (acc ++ [l[k]] ++ wo blank (wasAt l (k + 1)) (l.drop (k + 1)) = wo blank false l) := by
          rw [wo_keep hc] at hacc
          show _ = _
          rw [hnx, hc, ← hacc, List.append_assoc]; rfl
        clear hacc hnx
        go_wp2_with (at_builtin; refine wpList_append_ownX _ rfl _ _ 58 rfl w.heap.size 5 i0 (.int .u8 0) 1 1 Tryd.underlying58 hi hz0 hz1 hz2 rfl (by decide) _ _ _ rfl (hown.alloc _) ⟨wr.heap.size, 0, none⟩ 1 1 [.int .u8 (l[k].toNat : Int)] rfl rfl (new_cells _ _ _) (one_cell _ _) ?c3 ?c4 ?c5 ?_)
        case c3 => unfold maxLen; omega
        case c4 => omega
        case c5 => simp; omega
        intro v' w2 hown' hgrow hfr
        go_wp2
        go_roundw
        case rel => exact ⟨k + 1, acc ++ [l[k]], by omega, by go_num, by rw [byteCells_snoc]; simpa using hown', (hbr.alloc hbz _).grown hgrow (by simp; omega) (fun j hj => (hown.lt j hj).1), HD.out⟩
        case measure => simp [intOf]; omega
      · have step : ∀ (b : Bool), (b = (blank && !(wasAt l k))) → (b = true → Hid (acc ++ [32] ++ wo blank (wasAt l (k + 1)) (l.drop (k + 1)) = wo blank false l)) ∧ (b = false → Hid (acc ++ wo blank (wasAt l (k + 1)) (l.drop (k + 1)) = wo blank false l)) := by
          intro b hb
          constructor
          · intro ht
            rw [ht] at hb
            have h1 := (Bool.and_eq_true_iff.1 hb.symm)
            have h2 : wasAt l k = false := by simpa using h1.2
            rw [h1.1, h2, wo_blank hc] at hacc
            show _ = _
            rw [hnx, hc, h1.1, ← hacc, List.append_assoc]; rfl
          · intro hf
            rw [hf] at hb
            rw [wo_white_none hc hb.symm] at hacc
            show _ = _
            rw [hnx, hc]
            exact hacc
        clear hacc hnx
        cases blank
        · have HD := (step false (by simp)).2 rfl
          clear step
          go_wp2
          go_roundw
          case rel => exact ⟨k + 1, acc, by omega, by go_num, hown, hbr, HD.out⟩
          case measure => simp [intOf]; omega
        · rcases Nat.eq_zero_or_pos k with rfl | h0
          · have HD := (step true (by simp [wasAt])).1 rfl
            clear step
            go_wp2_with (at_builtin; refine wpList_append_ownX _ rfl _ _ 58 rfl w.heap.size 5 i0 (.int .u8 0) 1 1 Tryd.underlying58 hi hz0 hz1 hz2 rfl (by decide) _ _ _ rfl (hown.alloc _) ⟨wr.heap.size, 0, none⟩ 1 1 [.int .u8 32] rfl rfl (new_cells _ _ _) (one_cell _ _) ?c3 ?c4 ?c5 ?_)
            case c3 => unfold maxLen; omega
            case c4 => omega
            case c5 => simp; omega
            intro v' w2 hown' hgrow hfr
            go_wp2
            go_roundw
            case rel => exact ⟨0 + 1, acc ++ [32], by omega, by go_num, by rw [byteCells_snoc]; simpa using hown', (hbr.alloc hbz _).grown hgrow (by simp; omega) (fun j hj => (hown.lt j hj).1), HD.out⟩
            case measure => simp [intOf]; omega
          · have hpv : wasAt l k = wh l[k - 1] := was_prev h0 (by omega)
            have k0 : ((k : Int) == 0) = false := beq_eq_false_iff_ne.2 (by omega)
            have j1 : 0 ≤ (k : Int) - 1 := by omega
            have j2 : (k : Int) - 1 < (l.length : Int) := by omega
            have j3 : ((k : Int) - 1).toNat = k - 1 := by omega
            go_wp2_with fail
            refine (white_any l[k - 1] _).mono ?_
            rintro e w1 ⟨rfl, rfl⟩
            cases hp : wh l[k - 1]
            · have HD := (step true (by rw [hpv, hp]; rfl)).1 rfl
              clear step hpv
              go_wp2_with (at_builtin; refine wpList_append_ownX _ rfl _ _ 58 rfl w.heap.size 5 i0 (.int .u8 0) 1 1 Tryd.underlying58 hi hz0 hz1 hz2 rfl (by decide) _ _ _ rfl (hown.alloc _) ⟨wr.heap.size, 0, none⟩ 1 1 [.int .u8 32] rfl rfl (new_cells _ _ _) (one_cell _ _) ?c3 ?c4 ?c5 ?_)
              case c3 => unfold maxLen; omega
              case c4 => omega
              case c5 => simp; omega
              intro v' w2 hown' hgrow hfr
              go_wp2
              go_roundw
              case rel => exact ⟨k + 1, acc ++ [32], by omega, by go_num, by rw [byteCells_snoc]; simpa using hown', (hbr.alloc hbz _).grown hgrow (by simp; omega) (fun j hj => (hown.lt j hj).1), HD.out⟩
              case measure => simp [intOf]; omega
            · have HD := (step false (by rw [hpv, hp]; rfl)).2 rfl
              clear step hpv
              go_wp2
              go_roundw
              case rel => exact ⟨k + 1, acc, by omega, by go_num, hown, hbr, HD.out⟩
              case measure => simp [intOf]; omega
    · have HD : Hid (acc = wo blank false l) := by
        have e : l.drop k = [] := List.drop_eq_nil_of_le (by omega)
        rw [e] at hacc
        show acc = _
        simpa [wo] using hacc
      clear hacc
      have hcs := conv_string (P := Tryd.prog) wr 58 9 5 w.heap.size _ acc Tryd.underlying58 Tryd.underlying5 Tryd.underlying9 hown
      go_wp2
      go_ret
      rw [HD.out]
      exact ⟨rfl, hbr⟩
end Go.Proofs.YtkaadahcefdiiaaDoor
