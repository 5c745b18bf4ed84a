/-
  Layer canon, walked: a text with one blank for each run of white space and none at its end, and a text with blanks in the place of tabs.
-/
import Derived.Test.YtkaadahcefdiiaaDoorCnLeaf
namespace Go.Proofs.YtkaadahcefdiiaaDoor
open Cn Go.RowKit
attribute [local go_sem] ba_at ByteArray.extract_mk

set_option maxHeartbeats 1000000 in
theorem withOneBlank_any (l : List UInt8) (w : World) (hl : l.length ≤ 1099511627776) :
    Calls Tryd.prog 28 #[.string ⟨l.toArray⟩] w fun e w' => e = .returned (.string ⟨(trL (wo true false l)).toArray⟩) ∧ Below w.heap.size w w' := by
  have hwl := wo_len true l false
  go_enter Tryd.func28, Tryd.ntmps28
  go_wp2
  go_loopw [4, 5, 6, 9] (fun r _ _ i wr => ∃ (k : Nat) (acc : List UInt8) (was : Bool), k ≤ l.length ∧ r = .bool was ∧ i = .int .i64 k ∧ Lib.IsBuilderF 60 5 w.heap.size w.heap.size (Lib.byteCells acc) wr ∧ Below w.heap.size w wr ∧ acc ++ wo true was (l.drop k) = wo true false l) (fun _ _ _ i _ => l.length - (intOf i).toNat)
  case atStart => exact ⟨0, [], false, Nat.zero_le _, rfl, rfl, (Bld.fresh 60 5 w).isF, (Below.refl _ w).alloc (Nat.le_refl _) _, rfl⟩
  case round =>
    obtain ⟨k, acc, was, hk, rfl, rfl, hB, hbr, hacc⟩ := hrel
    have hal : acc.length ≤ l.length := by
      have h1 := congrArg List.length hacc
      rw [List.length_append] at h1
      omega
    have hbz := hbr.size
    by_cases hlt : k < l.length
    · have hdk : l.drop k = l[k] :: l.drop (k + 1) := List.drop_eq_getElem_cons hlt
      rw [hdk] at hacc
      clear hdk
      go_wp2_with fail
      refine (isWhite_any l[k] _).mono ?_
      rintro e w1 ⟨rfl, rfl⟩
      cases hc : wh l[k]
      · have HD : Hid (acc ++ [l[k]] ++ wo true false (l.drop (k + 1)) = wo true false l) := by
          rw [wo_keep hc] at hacc
          show _ = _
          rw [← hacc, List.append_assoc]; rfl
        clear hacc
        go_wp2_with fail
        refine (Tryd.WriteByte_k w.heap.size w.heap.size _ _ wr hB (by rw [cells_len]; omega) hbz).mono ?_
        rintro e w2 ⟨rfl, hB2, hb2, -⟩
        rw [← byteCells_snoc] at hB2
        go_wp2
        go_roundw
        case rel => exact ⟨k + 1, acc ++ [l[k]], false, by omega, rfl, by go_num, .inr hB2, hbr.trans hb2, HD.out⟩
        case measure => simp [intOf]; omega
      · cases was
        · have HD : Hid (acc ++ [32] ++ wo true true (l.drop (k + 1)) = wo true false l) := by
            rw [wo_blank hc] at hacc
            show _ = _
            rw [← hacc, List.append_assoc]; rfl
          clear hacc
          go_wp2_with fail
          refine (Tryd.WriteString_k w.heap.size w.heap.size _ _ wr hB (by rw [cells_len]; show acc.length + 1 ≤ _; omega) hbz).mono ?_
          rintro e w2 ⟨rfl, hB2, hb2, -⟩
          have hB3 : Lib.BuilderAtF 60 5 w.heap.size w.heap.size (.pointer (some ⟨w.heap.size, 0, none⟩)) (Lib.byteCells (acc ++ [32])) w2 := by rw [Lib.byteCells_append]; exact hB2
          clear hB2
          go_wp2
          go_roundw
          case rel => exact ⟨k + 1, acc ++ [32], true, by omega, rfl, by go_num, .inr hB3, hbr.trans hb2, HD.out⟩
          case measure => simp [intOf]; omega
        · have HD : Hid (acc ++ wo true true (l.drop (k + 1)) = wo true false l) := by
            rw [wo_run hc] at hacc
            exact hacc
          clear hacc
          go_wp2
          go_roundw
          case rel => exact ⟨k + 1, acc, true, by omega, rfl, by go_num, hB, hbr, HD.out⟩
          case measure => simp [intOf]; omega
    · have HD : Hid (acc = wo true false l) := by
        have e : l.drop k = [] := List.drop_eq_nil_of_le (by omega)
        rw [e] at hacc
        show acc = _
        simpa [wo] using hacc
      clear hacc
      go_wp2_with fail
      refine (Tryd.Builder_String_any_k w.heap.size w.heap.size acc wr hB hbz).mono ?_
      rintro e w2 ⟨rfl, -, hb2, -⟩
      go_wp2_with fail
      refine (withoutTrail_any acc _ (by omega)).mono ?_
      rintro e w3 ⟨rfl, hb3⟩
      go_wp2
      go_ret
      rw [HD.out]
      have h2 := hb2.size
      exact ⟨rfl, (hbr.trans hb2).trans (hb3.mono (by omega))⟩

theorem isF_keep {T e : TypeId} {B b : Nat} {bs : List Value} {w w' : World} (h : Lib.IsBuilderF T e B b bs w) (hb : Below w.heap.size w w') : Lib.IsBuilderF T e B b bs w' := by
  obtain ⟨v, hv⟩ : ∃ v, Bld T e B b v bs w := by
    rcases h with ⟨h1, v, h2, h3, h4⟩ | ⟨h1, v, h2, h3, h4⟩
    · exact ⟨v, h1, ⟨_, .inl rfl, h2⟩, h3, h4⟩
    · exact ⟨v, h1, ⟨_, .inr rfl, h2⟩, h3, h4⟩
  exact (hv.kept hb.block).isF

set_option maxHeartbeats 1000000 in
theorem Expand_any (l : List UInt8) (w : World) (hl : l.length ≤ 1099511627776) :
    Calls Tryd.prog 26 #[.string ⟨l.toArray⟩] w fun e w' => e = .returned (.string ⟨(expL 0 l).toArray⟩) ∧ Below w.heap.size w w' := by
  have hwl := exp_len l 0
  go_enter Tryd.func26, Tryd.ntmps26
  go_wp2
  go_loopw [4, 7] (fun _ i wr => ∃ (k : Nat) (acc : List UInt8), k ≤ l.length ∧ i = .int .i64 k ∧ Lib.IsBuilderF 60 5 w.heap.size w.heap.size (Lib.byteCells acc) wr ∧ Below w.heap.size w wr ∧ acc ++ expL acc.length (l.drop k) = expL 0 l) (fun _ i _ => l.length - (intOf i).toNat)
  case atStart => exact ⟨0, [], Nat.zero_le _, rfl, (Bld.fresh 60 5 w).isF, (Below.refl _ w).alloc (Nat.le_refl _) _, rfl⟩
  case round =>
    obtain ⟨k, acc, hk, rfl, hB, hbr, hacc⟩ := hrel
    have hal : acc.length ≤ 8 * l.length := by
      have h1 := congrArg List.length hacc
      rw [List.length_append] at h1
      omega
    have hbz := hbr.size
    by_cases hlt : k < l.length
    · have hdk : l.drop k = l[k] :: l.drop (k + 1) := List.drop_eq_getElem_cons hlt
      rw [hdk] at hacc
      clear hdk
      by_cases hc : l[k] = 9
      · obtain ⟨n, hn⟩ : ∃ n, 8 - acc.length % 8 = n := ⟨_, rfl⟩
        have HD : Hid (acc ++ List.replicate n 32 ++ expL (acc ++ List.replicate n 32).length (l.drop (k + 1)) = expL 0 l) := by
          rw [hc, exp_tab, hn] at hacc
          show _ = _
          rw [← hacc, List.append_assoc, List.length_append, List.length_replicate]
        clear hacc
        have hb9 : ((l[k].toNat : Int) != 9) = false := by rw [hc]; rfl
        have HN : Hid ((8 : Int) - (acc.length : Int) % 8 = (n : Int)) := by show _ = _; omega
        have hn8 : n ≤ 8 := by omega
        clear hn hc
        go_wp2_with fail
        refine (Tryd.Builder_Len_f w.heap.size w.heap.size _ wr hB).mono ?_
        rintro e w1 ⟨rfl, rfl⟩
        rw [cells_len]
        go_wp2_with fail
        rw [HN.out]
        refine (Tryd.strings_Repeat ⟨#[32]⟩ n _ (by omega) (by show 1 * n ≤ _; omega)).mono ?_
        rintro e w2 ⟨rfl, hb2⟩
        have hr : Lib.repeatL (⟨#[32]⟩ : ByteArray).data.toList n = List.replicate n 32 := rep_blank n
        rw [hr]
        have hB1 := isF_keep hB hb2
        have hbb := hbr.trans (hb2.mono hbz)
        have hbz2 := hbb.size
        clear hB hb2 hr
        go_wp2_with fail
        refine (Tryd.WriteString_k w.heap.size w.heap.size _ _ w2 hB1 (by rw [cells_len]; show acc.length + (List.replicate n 32).length ≤ _; rw [List.length_replicate]; omega) hbz2).mono ?_
        rintro e w3 ⟨rfl, hB2, hb3, -⟩
        have hB3 : Lib.BuilderAtF 60 5 w.heap.size w.heap.size (.pointer (some ⟨w.heap.size, 0, none⟩)) (Lib.byteCells (acc ++ List.replicate n 32)) w3 := by rw [Lib.byteCells_append]; exact hB2
        clear hB2
        go_wp2
        go_roundw
        case rel => exact ⟨k + 1, acc ++ List.replicate n 32, by omega, by go_num, .inr hB3, hbb.trans hb3, HD.out⟩
        case measure => simp [intOf]; omega
      · have HD : Hid (acc ++ [l[k]] ++ expL (acc ++ [l[k]]).length (l.drop (k + 1)) = expL 0 l) := by
          rw [exp_other hc] at hacc
          show _ = _
          rw [← hacc, List.append_assoc, List.length_append]; rfl
        clear hacc
        have hb9 : ((l[k].toNat : Int) != 9) = true := (not9 hc).2
        go_wp2_with fail
        refine (Tryd.WriteByte_k w.heap.size w.heap.size _ _ wr hB (by rw [cells_len]; omega) hbz).mono ?_
        rintro e w2 ⟨rfl, hB2, hb2, -⟩
        rw [← byteCells_snoc] at hB2
        go_wp2
        go_roundw
        case rel => exact ⟨k + 1, acc ++ [l[k]], by omega, by go_num, .inr hB2, hbr.trans hb2, HD.out⟩
        case measure => simp [intOf]; omega
    · have HD : Hid (acc = expL 0 l) := by
        have e : l.drop k = [] := List.drop_eq_nil_of_le (by omega)
        rw [e] at hacc
        show acc = _
        simpa [expL] using hacc
      clear hacc
      go_wp2_with fail
      refine (Tryd.Builder_String_any_k w.heap.size w.heap.size acc wr hB hbz).mono ?_
      rintro e w2 ⟨rfl, -, hb2, -⟩
      go_wp2
      go_ret
      rw [HD.out]
      exact ⟨rfl, hbr.trans hb2⟩
end Go.Proofs.YtkaadahcefdiiaaDoor
