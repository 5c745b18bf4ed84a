/-
  num.quotedWord and num.firstWord, walked: the word at the front of a line, and what is behind it.
-/
import Derived.Test.YtoelblofdgimfaaDoorUnq
import Derived.Test.YtoelblofdgimfaaDoorIdxAny
import Derived.Test.YtoelblofdgimfaaDoorWMath
namespace Go.Proofs.YtoelblofdgimfaaDoor
open Q Go.RowKit
attribute [local go_sem] ba_at ByteArray.extract_mk

theorem ret_fw {l a b : List UInt8} {n : Int} (h : fwa l = a ∧ fwb l = b ∧ fwe l = n) : Ending.returned (.tuple #[.string ⟨a.toArray⟩, .string ⟨b.toArray⟩, .int .i64 n]) = .returned (.tuple #[.string ⟨(fwa l).toArray⟩, .string ⟨(fwb l).toArray⟩, .int .i64 (fwe l)]) := by
  rw [h.1, h.2.1, h.2.2]

theorem IndexByte_blank (x : UInt8) (w : World) :
    Calls Tryd.prog 38 #[.string ⟨([32, 9] : List UInt8).toArray⟩, .int .u8 (x.toNat : Int)] w fun e w' => e = .returned (.int .i64 (idxB x)) ∧ w = w' := by
  have h := Tryd.strings_IndexByte ⟨([32, 9] : List UInt8).toArray⟩ (x.toNat : Int) w
  refine h.mono ?_
  rintro e w' ⟨rfl, rfl⟩
  have e : ((x.toNat : Int).toNat).toUInt8 = x := by simp
  rw [e]
  exact ⟨rfl, rfl⟩

set_option maxHeartbeats 1000000 in
theorem quotedWord_any (c : UInt8) (t : List UInt8) (w : World) (hl : (c :: t).length ≤ 1099511627776) (h34 : c.toNat = 34) :
    Calls Tryd.prog 33 #[.string ⟨(c :: t).toArray⟩] w fun e w' => e = .returned (.tuple #[.string ⟨(fwa (c :: t)).toArray⟩, .string ⟨(fwb (c :: t)).toArray⟩, .int .i64 (fwe (c :: t))]) ∧ Below w.heap.size w w' := by
  cases hu : unquote (c :: t) with
  | none =>
    obtain ⟨u1, u2, u3⟩ := uq_none hu
    have HE := fw_none (fw_quote_none h34 hu)
    have HH : Hid (fwa (c :: t) = [] ∧ fwb (c :: t) = [] ∧ fwe (c :: t) = 3) := HE
    clear HE hu
    go_enter Tryd.func33, Tryd.ntmps33
    go_wp2_with fail
    refine (Unquote_any (c :: t) _ hl).mono ?_
    rintro e w1 ⟨rfl, hb1⟩
    go_wp2
    go_ret3
    exact ⟨ret_fw HH.out, hb1⟩
  | some p =>
    obtain ⟨a, b⟩ := p
    obtain ⟨u1, u2, u3⟩ := uq_some hu
    cases b with
    | nil =>
      have HE := fw_some (fw_quote_ok h34 hu rfl)
      have HH : Hid (fwa (c :: t) = a ∧ fwb (c :: t) = [] ∧ fwe (c :: t) = 0) := HE
      clear HE hu
      go_enter Tryd.func33, Tryd.ntmps33
      go_wp2_with fail
      refine (Unquote_any (c :: t) _ hl).mono ?_
      rintro e w1 ⟨rfl, hb1⟩
      go_wp2
      go_ret3
      exact ⟨ret_fw HH.out, hb1⟩
    | cons d b =>
      cases hd : blankB d
      · have HE := fw_none (fw_quote_bad h34 hu hd)
        have HH : Hid (fwa (c :: t) = [] ∧ fwb (c :: t) = [] ∧ fwe (c :: t) = 3) := HE
        have hneg := idxB_no hd
        clear HE hu
        go_enter Tryd.func33, Tryd.ntmps33
        go_wp2_with fail
        refine (Unquote_any (c :: t) _ hl).mono ?_
        rintro e w1 ⟨rfl, hb1⟩
        go_wp2_with fail
        refine (IndexByte_blank d _).mono ?_
        rintro e w2 ⟨rfl, rfl⟩
        go_wp2
        go_ret3
        exact ⟨ret_fw HH.out, hb1⟩
      · have HE := fw_some (fw_quote_ok h34 hu hd)
        have HH : Hid (fwa (c :: t) = a ∧ fwb (c :: t) = d :: b ∧ fwe (c :: t) = 0) := HE
        have hpos := idxB_yes hd
        clear HE hu
        go_enter Tryd.func33, Tryd.ntmps33
        go_wp2_with fail
        refine (Unquote_any (c :: t) _ hl).mono ?_
        rintro e w1 ⟨rfl, hb1⟩
        go_wp2_with fail
        refine (IndexByte_blank d _).mono ?_
        rintro e w2 ⟨rfl, rfl⟩
        go_wp2
        go_ret3
        exact ⟨ret_fw HH.out, hb1⟩

set_option maxHeartbeats 1000000 in
theorem firstWord_any (c : UInt8) (t : List UInt8) (w : World) (hl : (c :: t).length < 4294967281) :
    Calls Tryd.prog 21 #[.string ⟨(c :: t).toArray⟩] w fun e w' => e = .returned (.tuple #[.string ⟨(fwa (c :: t)).toArray⟩, .string ⟨(fwb (c :: t)).toArray⟩, .int .i64 (fwe (c :: t))]) ∧ Below w.heap.size w w' := by
  by_cases h34 : c.toNat = 34
  · have hb : ((c.toNat : Int) == 34) = true := by simp; omega
    go_enter Tryd.func21, Tryd.ntmps21
    go_wp2_with fail
    refine (quotedWord_any c t _ (by omega) h34).mono ?_
    rintro e w1 ⟨rfl, hb1⟩
    go_wp2
    go_ret3
    exact ⟨rfl, hb1⟩
  · have hb : ((c.toNat : Int) == 34) = false := by simp; omega
    have HE := fw_some (fw_plain (t := t) h34)
    have HH : Hid (fwa (c :: t) = wfront (c :: t) ∧ fwb (c :: t) = wback (c :: t) ∧ fwe (c :: t) = 0) := HE
    clear HE h34
    generalize hL : c :: t = L at *
    have hb' : ∀ h : 0 < L.length, ((L[0].toNat : Int) == 34) = false := by intro h; subst hL; exact hb
    have h0 : 0 < L.length := by subst hL; simp
    have hb0 := hb' h0
    clear hb' hb hL
    rcases wend_take L with ⟨h1, h2, h3⟩ | ⟨k, h1, h2, h3, h4⟩
    · have HF : Hid (wfront L = L ∧ wback L = []) := ⟨h2, h3⟩
      clear h2 h3
      go_enter Tryd.func21, Tryd.ntmps21
      go_wp2_with fail
      refine (IndexAny_any L hl _).mono ?_
      rintro e w1 ⟨rfl, hb1⟩
      go_wp2_with fail
      go_region
      go_wp2
      go_ret3
      exact ⟨ret_fw (b := []) ⟨HH.out.1.trans HF.out.1, HH.out.2.1.trans HF.out.2, HH.out.2.2⟩, hb1.drew⟩
    · have HF : Hid (wfront L = L.take k ∧ wback L = L.drop k) := ⟨h3, h4⟩
      clear h3 h4
      go_enter Tryd.func21, Tryd.ntmps21
      go_wp2_with fail
      refine (IndexAny_any L hl _).mono ?_
      rintro e w1 ⟨rfl, hb1⟩
      go_wp2_with fail
      go_region
      go_wp2
      go_ret3
      rw [show List.take (L.length - k) (List.drop k L) = List.drop k L from List.take_of_length_le (by simp)]
      exact ⟨ret_fw ⟨HH.out.1.trans HF.out.1, HH.out.2.1.trans HF.out.2, HH.out.2.2⟩, hb1.drew⟩
end Go.Proofs.YtoelblofdgimfaaDoor
