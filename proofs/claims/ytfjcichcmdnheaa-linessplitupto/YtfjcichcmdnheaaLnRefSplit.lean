/-
  Split of the reference, walked: the lines of a text are what the plain function splitL says.
-/
import Derived.Test.YtfjcichcmdnheaaLnSplit
namespace Go.Proofs.Ytfjcichcmdnheaa
open Ln Go.RowKit
attribute [local go_sem] ba_at ByteArray.extract_mk

/-- from the place at on there is no line feed ahead of the place k -/
def Clean (l : List UInt8) (p k : Nat) : Prop := ∀ c ∈ (l.drop p).take (k - p), c ≠ 10

theorem clean_refl (l : List UInt8) (k : Nat) : Clean l k k := by intro c hc; simp at hc
theorem clean_step {l : List UInt8} {p k : Nat} (h : Clean l p k) (hp : p ≤ k) (hk : k < l.length) (h10 : l[k] ≠ 10) : Clean l p (k + 1) := by
  intro c hc
  rw [show k + 1 - p = (k - p) + 1 by omega, List.take_succ_eq_append_getElem (by simp; omega)] at hc
  simp only [List.mem_append, List.mem_singleton] at hc
  rcases hc with hc | hc
  · exact h c hc
  · rw [hc]
    simpa [show p + (k - p) = k by omega] using h10
theorem clean_feed {l : List UInt8} {p k : Nat} (h : Clean l p k) (hp : p ≤ k) (hk : k < l.length) (h10 : l[k] = 10) : splitL (l.drop p) = (l.drop p).take (k + 1 - p) :: splitL (l.drop (k + 1)) := by
  have e : l.drop p = (l.drop p).take (k - p) ++ 10 :: l.drop (k + 1) := by
    have h1 := (List.take_append_drop (k - p) (l.drop p)).symm
    rw [List.drop_drop, show p + (k - p) = k by omega, List.drop_eq_getElem_cons hk, h10] at h1
    exact h1
  have e2 : (l.drop p).take (k + 1 - p) = (l.drop p).take (k - p) ++ [10] := by
    rw [show k + 1 - p = (k - p) + 1 by omega, List.take_succ_eq_append_getElem (by simp; omega)]
    simp [show p + (k - p) = k by omega, h10]
  rw [e2]
  conv => lhs; rw [e]
  exact split_cut _ _ h
theorem clean_end {l : List UInt8} {p : Nat} (h : Clean l p l.length) (hp : p < l.length) : splitL (l.drop p) = [l.drop p] := by
  refine split_one _ (fun c hc => h c ?_) (by intro e; have := congrArg List.length e; simp at this; omega)
  rw [List.take_of_length_le (by simp)]
  exact hc

set_option maxHeartbeats 2000000 in
theorem refSplit_any (l : List UInt8) (w : World) (hl : l.length ≤ 1099511627776) :
    Calls Try.prog 11 #[.string ⟨l.toArray⟩] w fun e w' => ∃ v, e = .returned v ∧ w'.ownsRow w.heap.size 9 1 v (splitL l).length (scells (splitL l)) ∧ Below w.heap.size w w' := by
  obtain ⟨i0, hi, hz0, hz1, hz2⟩ := info_parts infoStr
  go_enter Try.func11, Try.ntmps11
  go_wp2
  go_loopw [3, 4, 5] (fun acc ap i wr => ∃ (xs : List (List UInt8)) (p k : Nat), p ≤ k ∧ k ≤ l.length ∧ ap = .int .i64 p ∧ i = .int .i64 k ∧ wr.ownsRow w.heap.size 9 1 acc xs.length (scells xs) ∧ Below w.heap.size w wr ∧ Hid (Clean l p k) ∧ Hid (xs ++ splitL (l.drop p) = splitL l)) (fun _ _ i _ => l.length - (intOf i).toNat)
  case atStart => exact ⟨[], 0, 0, Nat.le_refl _, Nat.zero_le _, rfl, rfl, World.ownsRow_nil _ _ _ _, Below.refl _ _, clean_refl _ _, rfl⟩
  case round =>
    obtain ⟨acc, p, k, hp, hk, rfl, rfl, hown, hbr, HC, HW⟩ := hrel
    have hacc := acc_le HW.out
    have hbz := hbr.size
    obtain ⟨ao, cap, rfl⟩ := ownsRow_form' hown
    by_cases hlt : k < l.length
    · by_cases h10 : l[k] = 10
      · have hb := (is10 h10).1
        have HE : Hid (acc ++ [(l.drop p).take (k + 1 - p)] ++ splitL (l.drop (k + 1)) = splitL l) := by
          have := HW.out
          rw [clean_feed HC.out hp hlt h10] at this
          show _ = _
          simpa using this
        clear h10
        go_wp2_with (at_builtin; refine wpList_append_own _ rfl _ _ 22 rfl w.heap.size 9 i0 (.string ⟨#[]⟩) 1 16 Try.underlying22 hi hz0 hz1 hz2 rfl (by decide) _ _ _ rfl (hown.alloc _) ⟨wr.heap.size, 0, none⟩ 1 1 [.string ⟨((l.drop p).take (k + 1 - p)).toArray⟩] rfl rfl (new_cells _ _ _) (one_str _) ?c3 ?c4 ?c5 ?_)
        case c3 => unfold maxLen; omega
        case c4 => omega
        case c5 => simp; omega
        intro v' w3 hown3 hgrow hfr
        have hbr3 := (hbr.alloc hbz (.cells #[.string ⟨((l.drop p).take (k + 1 - p)).toArray⟩] 9)).grown hgrow (by simp; omega) (fun j hj => (hown.lt j hj).1)
        go_wp2
        go_roundw
        case rel => exact ⟨acc ++ [(l.drop p).take (k + 1 - p)], k + 1, k + 1, Nat.le_refl _, by omega, by go_num, by go_num, by rw [scells_snoc]; simpa using hown3, hbr3, clean_refl _ _, HE.out⟩
        case measure => simp [intOf]; omega
      · have hb := (not10 h10).1
        have HD : Hid (Clean l p (k + 1)) := clean_step HC.out hp hlt h10
        clear h10
        go_wp2
        go_roundw
        case rel => exact ⟨acc, p, k + 1, by omega, by omega, rfl, by go_num, hown, hbr, HD, HW⟩
        case measure => simp [intOf]; omega
    · have hke : k = l.length := by omega
      subst hke
      by_cases hpl : p < l.length
      · have HE : Hid (splitL l = acc ++ [(l.drop p).take (l.length - p)]) := by
          have := HW.out
          rw [clean_end HC.out hpl] at this
          show _ = _
          rw [List.take_of_length_le (by simp)]
          exact this.symm
        go_wp2_with (at_builtin; refine wpList_append_own _ rfl _ _ 22 rfl w.heap.size 9 i0 (.string ⟨#[]⟩) 1 16 Try.underlying22 hi hz0 hz1 hz2 rfl (by decide) _ _ _ rfl (hown.alloc _) ⟨wr.heap.size, 0, none⟩ 1 1 [.string ⟨((l.drop p).take (l.length - p)).toArray⟩] rfl rfl (new_cells _ _ _) (one_str _) ?c3 ?c4 ?c5 ?_)
        case c3 => unfold maxLen; omega
        case c4 => omega
        case c5 => simp; omega
        intro v' w3 hown3 hgrow hfr
        have hbr3 := (hbr.alloc hbz (.cells #[.string ⟨((l.drop p).take (l.length - p)).toArray⟩] 9)).grown hgrow (by simp; omega) (fun j hj => (hown.lt j hj).1)
        go_wp2
        go_ret
        rw [HE.out, scells_snoc]
        exact ⟨_, rfl, by simpa using hown3, hbr3⟩
      · have HE : Hid (splitL l = acc) := by
          have := HW.out
          rw [List.drop_of_length_le (by omega)] at this
          show _ = _
          simpa [splitL] using this.symm
        go_wp2
        go_ret
        rw [HE.out]
        exact ⟨_, rfl, hown, hbr⟩
end Go.Proofs.Ytfjcichcmdnheaa
