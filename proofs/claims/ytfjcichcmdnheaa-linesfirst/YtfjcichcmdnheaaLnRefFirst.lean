/-
  First of the reference, walked: the first byte in which two texts differ and its line are what the plain functions firstN, firstL and firstB say.
-/
import Derived.Test.YtfjcichcmdnheaaLnFirst
namespace Go.Proofs.Ytfjcichcmdnheaa
open Ln Go.RowKit
attribute [local go_sem] ba_at ByteArray.extract_mk

set_option maxHeartbeats 2000000 in
theorem refFirst_any (a b : List UInt8) (w : World) (ha : a.length ≤ 9223372036854775807) (hb : b.length ≤ 9223372036854775807) :
    Calls Try.prog 21 #[.string ⟨a.toArray⟩, .string ⟨b.toArray⟩] w fun e w' => e = .returned (.tuple #[.int .i64 (firstN a b : Nat), .int .i64 (firstL a b : Nat), .bool (firstB a b)]) ∧ Below w.heap.size w w' := by
  by_cases he : a = b
  · subst he
    obtain ⟨e1, e2, e3⟩ := first_same a
    rw [e1, e2, e3]
    go_enter Try.func21, Try.ntmps21
    go_wp2
    go_ret3
    exact ⟨rfl, Below.refl _ _⟩
  · have hne : (a == b) = false := beq_eq_false_iff_ne.2 he
    obtain ⟨e1, e2, e3⟩ := first_other he
    have hlt := common_lt he ha hb
    obtain ⟨hc1, hc2⟩ := common_le a b
    have HR : Hid (Ending.returned (.tuple #[.int .i64 ((commonN a b : Nat) + 1 : Int), .int .i64 (((a.take (commonN a b)).count 10 : Nat) + 1 : Int), .bool true]) = .returned (.tuple #[.int .i64 (firstN a b : Nat), .int .i64 (firstL a b : Nat), .bool (firstB a b)])) := ret_three (by rw [e1]; rfl) (by rw [e2]; rfl) e3.symm
    clear e1 e2 e3 he
    go_enter Try.func21, Try.ntmps21
    go_wp2
    go_loopw [7, 8] (fun ln i wr => ∃ k n : Nat, k ≤ commonN a b ∧ i = .int .i64 k ∧ ln = .int .i64 (((a.take k).count 10 : Nat) + 1 : Int) ∧ wr = w.drewN n) (fun _ i _ => commonN a b - (intOf i).toNat)
    case atStart => exact ⟨0, 0, Nat.zero_le _, rfl, rfl, rfl⟩
    case round =>
      obtain ⟨k, n, hk, rfl, rfl, rfl⟩ := hrel
      have hco : (a.take k).count 10 ≤ k := by
        have := List.count_le_length (a := (10 : UInt8)) (l := a.take k)
        simp at this; omega
      by_cases h1 : k < a.length
      · by_cases h2 : k < b.length
        · have d1 := fun v => idx_str (P := Try.prog) 9 Try.underlying9 a k k h1 rfl v
          have d2 := fun v => idx_str (P := Try.prog) 9 Try.underlying9 b k k h2 rfl v
          by_cases he : a[k] = b[k]
          · have hbe := (same_byte he).1
            have HE : Hid (k + 1 ≤ commonN a b) := common_step hk h1 h2 he
            clear he
            by_cases h10 : a[k] = 10
            · have hb10 := (is10 h10).1
              have HC : Hid ((a.take (k + 1)).count 10 = (a.take k).count 10 + 1) := by
                show _ = _
                rw [List.take_succ_eq_append_getElem h1, List.count_append, h10]; rfl
              clear h10
              have hz2 : ((a.take k).count 10 : Int) + 1 + 1 ≤ 9223372036854775807 := by have := HE.out; omega
              generalize (a.take k).count 10 = z at *
              go_wp2_with fail
              go_quiet (fail)
              go_wp2
              go_roundw
              case rel => exact ⟨k + 1, _, HE.out, by go_num, by have := HC.out; have := HE.out; go_num, rfl⟩
              case measure => have := HE.out; simp [intOf]; omega
            · have hb10 := (not10 h10).1
              have HC : Hid ((a.take (k + 1)).count 10 = (a.take k).count 10) := by
                show _ = _
                rw [List.take_succ_eq_append_getElem h1, List.count_append, List.count_singleton]
                simp [h10]
              clear h10
              generalize (a.take k).count 10 = z at *
              go_wp2_with fail
              go_quiet (fail)
              go_wp2
              go_roundw
              case rel => exact ⟨k + 1, _, HE.out, by go_num, by rw [HC.out], rfl⟩
              case measure => have := HE.out; simp [intOf]; omega
          · have hbe := (other_byte he).1
            have hck : commonN a b = k := common_stop hk h1 h2 he
            rw [hck] at HR
            clear he
            generalize (a.take k).count 10 = z at *
            go_wp2_with fail
            go_quiet (fail)
            go_wp2
            go_ret3
            exact ⟨HR.out, below_drewN (Below.refl _ _) _⟩
        · have hck : commonN a b = k := common_end hk (by omega)
          rw [hck] at HR
          generalize (a.take k).count 10 = z at *
          go_wp2_with fail
          go_quiet (fail)
          go_wp2
          go_ret3
          exact ⟨HR.out, below_drewN (Below.refl _ _) _⟩
      · have hck : commonN a b = k := common_end hk (by omega)
        rw [hck] at HR
        generalize (a.take k).count 10 = z at *
        go_wp2_with fail
        go_quiet (fail)
        go_wp2
        go_ret3
        exact ⟨HR.out, below_drewN (Below.refl _ _) _⟩
end Go.Proofs.Ytfjcichcmdnheaa
