/-
  Small functions of layer canon, walked: white space, a text without the white space at its end, without all white space, with one blank for each run of it, a line without its line feed.
-/
import Derived.Test.YtkaadahcefdiiaaDoorCnByte
import Derived.Test.YtkaadahcefdiiaaDoorCnShelfB
namespace Go.Proofs.YtkaadahcefdiiaaDoor
open Cn Go.RowKit
attribute [local go_sem] ba_at ByteArray.extract_mk

theorem idx_white (c : UInt8) : decide (0 ≤ Lib.indexByte [32, 9, 11, 12, 13] c) = wh c := by
  have h : ∀ c : Fin 256, decide (0 ≤ Lib.indexByte [32, 9, 11, 12, 13] (UInt8.ofNat c.val)) = wh (UInt8.ofNat c.val) := by decide +kernel
  have := h ⟨c.toNat, c.toNat_lt⟩
  simpa using this

set_option maxHeartbeats 400000 in
theorem isWhite_any (c : UInt8) (w : World) :
    Calls Tryd.prog 39 #[.int .u8 (c.toNat : Int)] w fun e w' => e = .returned (.bool (wh c)) ∧ w = w' := by
  rw [← idx_white]
  generalize hq : Lib.indexByte [32, 9, 11, 12, 13] c = q
  go_enter Tryd.func39, Tryd.ntmps39
  go_wp2_with fail
  refine (Tryd.strings_IndexByte ⟨#[32, 9, 11, 12, 13]⟩ (c.toNat : Int) _).mono ?_
  rintro e w1 ⟨rfl, rfl⟩
  have hq' : Lib.indexByte (⟨#[32, 9, 11, 12, 13]⟩ : ByteArray).data.toList (Int.toNat (c.toNat : Int)).toUInt8 = q := by
    rw [← hq, Int.toNat_natCast]
    exact congrArg _ (UInt8.ofNat_toNat)
  rw [hq']
  go_wp2
  go_ret
  exact ⟨rfl, rfl⟩

set_option maxHeartbeats 400000 in
theorem withoutTrail_any (l : List UInt8) (w : World) (hl : l.length ≤ 9223372036854775807) :
    Calls Tryd.prog 29 #[.string ⟨l.toArray⟩] w fun e w' => e = .returned (.string ⟨(trL l).toArray⟩) ∧ Below w.heap.size w w' := by
  go_enter Tryd.func29, Tryd.ntmps29
  go_wp2_with fail
  refine (Tryd.TrimRight_white ⟨l.toArray⟩ _ hl).mono ?_
  rintro e w1 ⟨rfl, hb1⟩
  go_wp2
  go_ret
  exact ⟨rfl, hb1⟩

theorem suffix_feed (s : List UInt8) : Lib.hasSuffix s [10] = feedB s := by
  unfold Lib.hasSuffix feedB
  rw [Bool.eq_iff_iff, List.isSuffixOf_iff_suffix, beq_iff_eq]
  constructor
  · rintro ⟨t, rfl⟩; simp
  · intro h
    obtain ⟨t, rfl⟩ := List.getLast?_eq_some_iff.1 h
    exact ⟨t, rfl⟩
theorem trim_feed (s : List UInt8) : Lib.trimSuffix s [10] = bareL s := by
  unfold Lib.trimSuffix bareL
  rw [suffix_feed, List.dropLast_eq_take]; rfl

set_option maxHeartbeats 400000 in
theorem Bare_any (l : List UInt8) (w : World) (hl : l.length ≤ 9223372036854775807) :
    Calls Tryd.prog 22 #[.string ⟨l.toArray⟩] w fun e w' => e = .returned (.tuple #[.string ⟨(bareL l).toArray⟩, .bool (feedB l)]) ∧ w = w' := by
  go_enter Tryd.func22, Tryd.ntmps22
  go_wp2_with fail
  refine (Tryd.strings_CutSuffix ⟨l.toArray⟩ ⟨#[10]⟩ _ hl).mono ?_
  rintro e w1 ⟨rfl, rfl⟩
  go_wp2
  go_ret2
  rw [← trim_feed, ← suffix_feed]
  exact ⟨rfl, rfl⟩

theorem cells_len (l : List UInt8) : (Lib.byteCells l).length = l.length := by simp [Lib.byteCells]

set_option maxHeartbeats 1000000 in
theorem withoutWhite_any (l : List UInt8) (w : World) (hl : l.length ≤ 1099511627776) :
    Calls Tryd.prog 27 #[.string ⟨l.toArray⟩] w fun e w' => e = .returned (.string ⟨(wo false false l).toArray⟩) ∧ Below w.heap.size w w' := by
  go_enter Tryd.func27, Tryd.ntmps27
  go_wp2
  go_loopw [4, 7] (fun _ i wr => ∃ (k : Nat) (acc : List UInt8) (was : Bool), k ≤ l.length ∧ i = .int .i64 k ∧ Lib.IsBuilderF 60 5 w.heap.size w.heap.size (Lib.byteCells acc) wr ∧ Below w.heap.size w wr ∧ acc ++ wo false was (l.drop k) = wo false false l) (fun _ i _ => l.length - (intOf i).toNat)
  case atStart => exact ⟨0, [], false, Nat.zero_le _, rfl, (Bld.fresh 60 5 w).isF, (Below.refl _ w).alloc (Nat.le_refl _) _, rfl⟩
  case round =>
    obtain ⟨k, acc, was, hk, rfl, hB, hbr, hacc⟩ := hrel
    have hal : acc.length ≤ l.length := by
      have h1 := congrArg List.length hacc
      have h2 := wo_len false l false
      rw [List.length_append] at h1
      omega
    have hbz := hbr.size
    by_cases hlt : k < l.length
    · have hdk : l.drop k = l[k] :: l.drop (k + 1) := List.drop_eq_getElem_cons hlt
      rw [hdk] at hacc
      clear hdk
      go_wp2_with fail
      refine (isWhite_any l[k] _).mono ?_
      rintro e w1 ⟨rfl, rfl⟩
      cases hc : wh l[k]
      · have HD : Hid (acc ++ [l[k]] ++ wo false false (l.drop (k + 1)) = wo false false l) := by
          rw [wo_keep hc] at hacc
          show _ = _
          rw [← hacc, List.append_assoc]; rfl
        clear hacc
        go_wp2_with fail
        refine (Tryd.WriteByte_k w.heap.size w.heap.size _ _ wr hB (by rw [cells_len]; omega) hbz).mono ?_
        rintro e w2 ⟨rfl, hB2, hb2, -⟩
        rw [← byteCells_snoc] at hB2
        go_wp2
        go_roundw
        case rel => exact ⟨k + 1, acc ++ [l[k]], false, by omega, by go_num, .inr hB2, hbr.trans hb2, HD.out⟩
        case measure => simp [intOf]; omega
      · have HD : Hid (acc ++ wo false true (l.drop (k + 1)) = wo false false l) := by
          rw [wo_none hc] at hacc
          exact hacc
        clear hacc
        go_wp2
        go_roundw
        case rel => exact ⟨k + 1, acc, true, by omega, by go_num, hB, hbr, HD.out⟩
        case measure => simp [intOf]; omega
    · have HD : Hid (acc = wo false false l) := by
        have e : l.drop k = [] := List.drop_eq_nil_of_le (by omega)
        rw [e] at hacc
        show acc = _
        simpa [wo] using hacc
      clear hacc
      go_wp2_with fail
      refine (Tryd.Builder_String_any_k w.heap.size w.heap.size acc wr hB hbz).mono ?_
      rintro e w2 ⟨rfl, -, hb2, -⟩
      go_wp2
      go_ret
      rw [HD.out]
      exact ⟨rfl, hbr.trans hb2⟩
end Go.Proofs.YtkaadahcefdiiaaDoor
