/-
  Small functions of layer lines and of the reference, walked: a line without its line feed, bytes that are no text, the first byte in which two texts differ.
-/
import Derived.Test.YtfjcichcmdnheaaLnByte
import Derived.Test.YtfjcichcmdnheaaLnShelfB
namespace Go.Proofs.Ytfjcichcmdnheaa
open Ln Go.RowKit
attribute [local go_sem] ba_at ByteArray.extract_mk

theorem suffix_feed (s : List UInt8) : Lib.hasSuffix s [10] = feedB s := by
  unfold Lib.hasSuffix feedB
  rw [Bool.eq_iff_iff, List.isSuffixOf_iff_suffix, beq_iff_eq]
  constructor
  · rintro ⟨t, rfl⟩; simp
  · intro h
    obtain ⟨t, rfl⟩ := List.getLast?_eq_some_iff.1 h
    exact ⟨t, rfl⟩
theorem trim_feed (s : List UInt8) : Lib.trimSuffix s [10] = bareL s := by
  unfold Lib.trimSuffix bareL
  rw [suffix_feed, List.dropLast_eq_take]; rfl

set_option maxHeartbeats 400000 in
theorem Bare_any (l : List UInt8) (w : World) (hl : l.length ≤ 9223372036854775807) :
    Calls Try.prog 16 #[.string ⟨l.toArray⟩] w fun e w' => e = .returned (.tuple #[.string ⟨(bareL l).toArray⟩, .bool (feedB l)]) ∧ w = w' := by
  go_enter Try.func16, Try.ntmps16
  go_wp2_with fail
  refine (Try.strings_CutSuffix ⟨l.toArray⟩ ⟨#[10]⟩ _ hl).mono ?_
  rintro e w1 ⟨rfl, rfl⟩
  go_wp2
  go_ret2
  rw [← trim_feed, ← suffix_feed]
  exact ⟨rfl, rfl⟩

theorem bare_nil : bareL [] = [] ∧ feedB [] = false := ⟨rfl, rfl⟩
theorem bare_yes {l : List UInt8} (h0 : 0 < l.length) (h : l[l.length - 1] = 10) : bareL l = l.take (l.length - 1) ∧ feedB l = true := by
  have hf : feedB l = true := by unfold feedB; rw [List.getLast?_eq_getElem?, List.getElem?_eq_getElem (by omega), h]; rfl
  exact ⟨by rw [bareL, hf, List.dropLast_eq_take]; rfl, hf⟩
theorem bare_no {l : List UInt8} (h0 : 0 < l.length) (h : l[l.length - 1] ≠ 10) : bareL l = l ∧ feedB l = false := by
  have hf : feedB l = false := by unfold feedB; rw [List.getLast?_eq_getElem?, List.getElem?_eq_getElem (by omega)]; simpa using h
  exact ⟨by rw [bareL, hf]; rfl, hf⟩

set_option maxHeartbeats 400000 in
theorem refBare_any (l : List UInt8) (w : World) (hl : l.length ≤ 9223372036854775807) :
    Calls Try.prog 17 #[.string ⟨l.toArray⟩] w fun e w' => e = .returned (.tuple #[.string ⟨(bareL l).toArray⟩, .bool (feedB l)]) ∧ w = w' := by
  rcases Nat.eq_zero_or_pos l.length with h0 | h0
  · obtain rfl := List.eq_nil_of_length_eq_zero h0
    go_enter Try.func17, Try.ntmps17
    go_wp2
    go_ret2
    exact ⟨rfl, rfl⟩
  · have hn : ((l.length : Int) == 0) = false := beq_eq_false_iff_ne.2 (by omega)
    have hi : (((l.length : Int) - 1).toNat) = l.length - 1 := by omega
    have i1 : 0 ≤ (l.length : Int) - 1 := by omega
    have i2 : (l.length : Int) - 1 < (l.length : Int) := by omega
    have i3 : (l.length : Int) - 1 ≤ (l.length : Int) := by omega
    by_cases h : l[l.length - 1] = 10
    · obtain ⟨e1, e2⟩ := bare_yes h0 h
      rw [e1, e2]
      have hb : ((l[l.length - 1].toNat : Int) != 10) = false := by rw [h]; rfl
      go_enter Try.func17, Try.ntmps17
      go_wp2
      go_ret2
      exact ⟨rfl, rfl⟩
    · obtain ⟨e1, e2⟩ := bare_no h0 h
      rw [e1, e2]
      have hb : ((l[l.length - 1].toNat : Int) != 10) = true := (not10 h).2
      go_enter Try.func17, Try.ntmps17
      go_wp2
      go_ret2
      exact ⟨rfl, rfl⟩

/-- whether there is a byte 0 -/
def zeroB (l : List UInt8) : Bool := l.contains 0

set_option maxHeartbeats 400000 in
theorem Binary_any (l : List UInt8) (w : World) :
    Calls Try.prog 18 #[.string ⟨l.toArray⟩] w fun e w' => e = .returned (.bool (zeroB l)) ∧ w = w' := by
  have hz : zeroB l = decide (0 ≤ Lib.indexByte l 0) := by
    unfold zeroB
    rw [Bool.eq_iff_iff, List.contains_iff_mem, decide_eq_true_iff]
    constructor
    · intro h
      rcases Int.lt_or_le (Lib.indexByte l 0) 0 with h1 | h1
      · exact absurd rfl ((index_none h1).2 0 h)
      · exact h1
    · intro h
      obtain ⟨a, b, e, _⟩ := index_some h
      rw [e]; simp
  rw [hz]
  generalize hq : Lib.indexByte l 0 = q
  go_enter Try.func18, Try.ntmps18
  go_wp2_with fail
  refine (Try.strings_IndexByte ⟨l.toArray⟩ 0 _).mono ?_
  rintro e w1 ⟨rfl, rfl⟩
  have hq' : Lib.indexByte (⟨l.toArray⟩ : ByteArray).data.toList (Int.toNat 0).toUInt8 = q := hq
  rw [hq']
  go_wp2
  go_ret
  exact ⟨rfl, rfl⟩

set_option maxHeartbeats 400000 in
theorem refBinary_any (l : List UInt8) (w : World) (hl : l.length ≤ 9223372036854775807) :
    Calls Try.prog 19 #[.string ⟨l.toArray⟩] w fun e w' => e = .returned (.bool (zeroB l)) ∧ w = w' := by
  go_enter Try.func19, Try.ntmps19
  go_wp2
  go_loop [3] (fun i => ∃ k : Nat, k ≤ l.length ∧ i = .int .i64 k ∧ zeroB l = zeroB (l.drop k)) (fun i => l.length - (intOf i).toNat)
  case atStart => exact ⟨0, Nat.zero_le _, rfl, rfl⟩
  case round =>
    obtain ⟨k, hk, rfl, hz⟩ := hrel
    have HZ : Hid (zeroB l = zeroB (l.drop k)) := hz
    clear hz
    by_cases hlt : k < l.length
    · have hd : l.drop k = l[k] :: l.drop (k + 1) := List.drop_eq_getElem_cons hlt
      by_cases h0 : l[k] = 0
      · have hb : ((l[k].toNat : Int) == 0) = true := by rw [h0]; rfl
        have HE : Hid (zeroB (l.drop k) = true) := by show _ = _; rw [hd, h0]; simp [zeroB]
        clear hd
        go_wp2
        go_ret
        rw [HZ.out, HE.out]
        exact ⟨rfl, rfl⟩
      · have hb : ((l[k].toNat : Int) == 0) = false := not0 h0
        have HE : Hid (zeroB (l.drop k) = zeroB (l.drop (k + 1))) := by
          show _ = _
          rw [hd]
          unfold zeroB
          rw [List.contains_cons]
          have : ((0 : UInt8) == l[k]) = false := by simp; exact fun e => h0 e.symm
          rw [this]; rfl
        clear hd
        go_wp2
        exact ⟨⟨k + 1, by omega, by go_num, by rw [HZ.out, HE.out]⟩, by simp [intOf]; omega⟩
    · have HE : Hid (zeroB (l.drop k) = false) := by show _ = _; rw [List.drop_of_length_le (by omega)]; rfl
      go_wp2
      go_ret
      rw [HZ.out, HE.out]
      exact ⟨rfl, rfl⟩
end Go.Proofs.Ytfjcichcmdnheaa
