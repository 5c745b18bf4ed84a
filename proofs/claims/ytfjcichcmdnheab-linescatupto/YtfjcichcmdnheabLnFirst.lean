/-
  First of layer lines, walked: the first byte in which two texts differ and its line are what the plain functions firstN, firstL and firstB say.
-/
import Derived.Test.YtfjcichcmdnheabLnByte
namespace Go.Proofs.Ytfjcichcmdnheab
open Ln Go.RowKit
attribute [local go_sem] ba_at ByteArray.extract_mk

set_option maxHeartbeats 1000000 in
theorem common_any (a b : List UInt8) (w : World) (ha : a.length ≤ 9223372036854775807) (_ : b.length ≤ 9223372036854775807) :
    Calls Try.prog 10 #[.string ⟨a.toArray⟩, .string ⟨b.toArray⟩] w fun e w' => e = .returned (.int .i64 (commonN a b : Nat)) ∧ ∃ n, w' = w.drewN n := by
  have hm : min (a.length : Int) (b.length : Int) = ((min a.length b.length : Nat) : Int) := by omega
  go_enter Try.func10, Try.ntmps10
  go_wp2
  generalize hq : min a.length b.length = m at *
  go_loopw [6, 13] (fun _ i wr => ∃ k n : Nat, k ≤ m ∧ k ≤ commonN a b ∧ i = .int .i64 k ∧ wr = w.drewN n) (fun _ i _ => m - (intOf i).toNat)
  case atStart => exact ⟨0, 0, Nat.zero_le _, Nat.zero_le _, rfl, rfl⟩
  case round =>
    obtain ⟨k, n, hk, hkc, rfl, rfl⟩ := hrel
    by_cases hlt : k < m
    · have h1 : k < a.length := by omega
      have h2 : k < b.length := by omega
      have d1 := fun v => idx_str (P := Try.prog) 9 Try.underlying9 a k k h1 rfl v
      have d2 := fun v => idx_str (P := Try.prog) 9 Try.underlying9 b k k h2 rfl v
      by_cases he : a[k] = b[k]
      · have hbe := (same_byte he).2
        have HE : Hid (k + 1 ≤ commonN a b) := common_step hkc h1 h2 he
        clear he
        go_wp2_with fail
        go_quiet (fail)
        go_wp2
        go_roundw
        case rel => exact ⟨k + 1, _, by omega, HE.out, by go_num, rfl⟩
        case measure => simp [intOf]; omega
      · have hbe := (other_byte he).2
        have HE : Hid (commonN a b = k) := common_stop hkc h1 h2 he
        clear he
        go_wp2_with fail
        go_quiet (fail)
        go_wp2
        go_ret
        rw [HE.out]
        exact ⟨rfl, _, World.drewN_drewN ..⟩
    · have HE : Hid (commonN a b = m) := by
        show _ = _
        rw [common_end hkc (by omega)]; omega
      go_wp2
      go_ret
      rw [HE.out]
      exact ⟨rfl, _, rfl⟩

theorem first_same (a : List UInt8) : firstN a a = 0 ∧ firstL a a = 0 ∧ firstB a a = false := by simp [firstN, firstL, firstB]
theorem first_other {a b : List UInt8} (h : a ≠ b) : firstN a b = commonN a b + 1 ∧ firstL a b = (a.take (commonN a b)).count 10 + 1 ∧ firstB a b = true := by simp [firstN, firstL, firstB, h]

theorem common_lt {a b : List UInt8} (h : a ≠ b) (ha : a.length ≤ 9223372036854775807) (hb : b.length ≤ 9223372036854775807) : commonN a b < 9223372036854775807 := by
  have h1 := common_le a b
  rcases Nat.lt_or_ge (commonN a b) 9223372036854775807 with h2 | h2
  · exact h2
  · exact absurd (common_full (by omega) (by omega)) h

theorem ret_three {k k' : IntKind} {a b a' b' : Int} {c c' : Bool} (h : a = a') (h' : b = b') (h2 : c = c') : Ending.returned (.tuple #[.int k a, .int k' b, .bool c]) = .returned (.tuple #[.int k a', .int k' b', .bool c']) := by rw [h, h', h2]

set_option maxHeartbeats 1000000 in
theorem First_any (a b : List UInt8) (w : World) (ha : a.length ≤ 9223372036854775807) (hb : b.length ≤ 9223372036854775807) :
    Calls Try.prog 7 #[.string ⟨a.toArray⟩, .string ⟨b.toArray⟩] w fun e w' => e = .returned (.tuple #[.int .i64 (firstN a b : Nat), .int .i64 (firstL a b : Nat), .bool (firstB a b)]) ∧ Below w.heap.size w w' := by
  by_cases he : a = b
  · subst he
    obtain ⟨e1, e2, e3⟩ := first_same a
    rw [e1, e2, e3]
    go_enter Try.func7, Try.ntmps7
    go_wp2
    go_ret3
    exact ⟨rfl, Below.refl _ _⟩
  · have hne : (a == b) = false := beq_eq_false_iff_ne.2 he
    obtain ⟨e1, e2, e3⟩ := first_other he
    have hlt := common_lt he ha hb
    obtain ⟨hc1, hc2⟩ := common_le a b
    have hco : (a.take (commonN a b)).count 10 ≤ commonN a b := by
      have := List.count_le_length (a := (10 : UInt8)) (l := a.take (commonN a b))
      simp at this; omega
    have HR : Hid (Ending.returned (.tuple #[.int .i64 ((commonN a b : Nat) + 1 : Int), .int .i64 (((a.take (commonN a b)).count 10 : Nat) + 1 : Int), .bool true]) = .returned (.tuple #[.int .i64 (firstN a b : Nat), .int .i64 (firstL a b : Nat), .bool (firstB a b)])) := ret_three (by rw [e1]; rfl) (by rw [e2]; rfl) e3.symm
    clear e1 e2 e3 he
    go_enter Try.func7, Try.ntmps7
    go_wp2_with fail
    refine (common_any a b _ ha hb).mono ?_
    rintro e w1 ⟨rfl, n, rfl⟩
    generalize hq : commonN a b = q at *
    go_wp2_with fail
    refine (Try.strings_Count_one ⟨(a.take q).toArray⟩ 10 _).mono ?_
    rintro e w1 ⟨rfl, rfl⟩
    have hcb : Lib.countByte (⟨(a.take q).toArray⟩ : ByteArray).data.toList 10 = (a.take q).count 10 := rfl
    rw [hcb]
    generalize (a.take q).count 10 = z at *
    go_wp2
    go_ret3
    have hl : (a.take q).length = q := by simp; omega
    exact ⟨HR.out, below_drewN (Below.refl _ _) _⟩

end Go.Proofs.Ytfjcichcmdnheab
