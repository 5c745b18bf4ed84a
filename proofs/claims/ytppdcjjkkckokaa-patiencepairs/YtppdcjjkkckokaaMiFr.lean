/-
  How much is the same at the front; Length: front, tooLong, Length, walked.
-/
import Derived.Test.YtppdcjjkkckokaaMiMs
namespace Go.Proofs.Ytppdcjjkkckokaa
open Go.RowKit

set_option maxHeartbeats 1000000 in
theorem front_f (x y : List Int) (r : Nat) (vx vy : Value) (w : World) (hx : HI w vx x) (hy : HI w vy y) (hxl : x.length ≤ 1048576) (hyl : y.length ≤ 1048576) (hr : Hid (fr x y = r)) :
    Calls Try.prog 39 #[vx, vy] w fun e w' => e = .returned (.int .i64 (r : Int)) ∧ Below w.heap.size w w' := by
  obtain ⟨xo, xc, rfl⟩ := Holds.form hx
  obtain ⟨yo, yc, rfl⟩ := Holds.form hy
  obtain ⟨m, hm⟩ : ∃ m : Nat, m = min x.length y.length := ⟨_, rfl⟩
  have hmi : (if y.length < x.length then (y.length : Int) else (x.length : Int)) = (m : Int) := by split <;> omega
  have HM : Hid (m = min x.length y.length) := hm
  clear hm
  go_enter Try.func39, Try.ntmps39
  go_wp2
  clear hmi
  go_loopw [13] (fun iv wr => ∃ (k n : Nat), k ≤ m ∧ iv = .int .i64 (k : Int) ∧ wr = w.drewN n ∧ Hid (k + fr (x.drop k) (y.drop k) = r)) (fun iv _ => m - (intOf iv).toNat)
  case atStart => exact ⟨0, 0, Nat.zero_le _, rfl, rfl, (by show _ = _; rw [← hr.out]; simp)⟩
  case round =>
    obtain ⟨k, n, hk, rfl, rfl, hR⟩ := hrel
    by_cases hlt : k < m
    · have hkx : k < x.length := by have := HM.out; omega
      have hky : k < y.length := by have := HM.out; omega
      obtain ⟨bx, ox, rfl, _, hcx⟩ := HI.at hx (by omega)
      obtain ⟨by', oy, rfl, _, hcy⟩ := HI.at hy (by omega)
      have d1 := hcx k hkx
      have d2 := hcy k hky
      have hR' := hR.out
      rw [fr_step x y k hkx hky] at hR'
      obtain ⟨xi, hxi⟩ : ∃ z, x[k] = z := ⟨_, rfl⟩
      obtain ⟨yj, hyj⟩ : ∃ z, y[k] = z := ⟨_, rfl⟩
      rw [hxi] at d1 hR'
      rw [hyj] at d2 hR'
      clear hcx hcy hxi hyj hR
      have i1 : 0 ≤ (k : Int) := by omega
      have i2 : (k : Int) < (x.length : Int) := by omega
      have i3 : (k : Int) < (y.length : Int) := by omega
      have i4 : (k : Int) < (m : Int) := by omega
      by_cases hxy : xi = yj
      · rw [if_pos hxy] at hR'
        have HR : Hid (k + 1 + fr (x.drop (k + 1)) (y.drop (k + 1)) = r) := (by show _ = _; omega)
        clear hR'
        go_wp2_with fail
        go_quiet (fail)
        go_wp2
        go_roundw
        case rel => exact ⟨k + 1, _, by omega, by go_num, rfl, HR⟩
        case measure => simp [intOf]; omega
      · rw [if_neg hxy] at hR'
        have hxy' : decide (xi = yj) = false := decide_eq_false hxy
        obtain rfl : k = r := by omega
        clear hR'
        go_wp2_with fail
        go_quiet (fail)
        go_wp2
        go_ret
        exact ⟨rfl, Below.dN (Below.dN (Below.refl _ w) _) _⟩
    · obtain rfl : k = m := by omega
      go_wp2
      go_ret
      refine ⟨ret_int ?_, Below.dN (Below.refl _ w) _⟩
      have h := hR.out
      have hm := HM.out
      have : fr (x.drop k) (y.drop k) = 0 := by
        have := fr_le (x.drop k) (y.drop k)
        simp at this
        omega
      omega

set_option maxHeartbeats 1000000 in
theorem tooLong_any (x y : List Int) (vx vy : Value) (w : World) (hx : HI w vx x) (hy : HI w vy y) (b : Bool) (hb : Hid (b = (decide (4096 < x.length) || decide (4096 < y.length)))) :
    Calls Try.prog 38 #[vx, vy] w fun e w' => e = .returned (.bool b) ∧ w = w' := by
  obtain ⟨xo, xc, rfl⟩ := Holds.form hx
  obtain ⟨yo, yc, rfl⟩ := Holds.form hy
  have e1 : decide (4096 < x.length) = decide ((4096 : Int) < (x.length : Int)) := decide_eq_decide.2 (by omega)
  have e2 : decide (4096 < y.length) = decide ((4096 : Int) < (y.length : Int)) := decide_eq_decide.2 (by omega)
  have e3 := hb.out
  rw [e1, e2] at e3
  subst e3
  clear hb e1 e2
  go_enter Try.func38, Try.ntmps38
  go_wp2
  all_goals
    go_ret
    exact ⟨by first | rfl | simp [*], rfl⟩

/-- x[k:] of a slice of numbers -/
theorem run_from (X : List Int) (ao : Option Addr) (cap k : Nat) (w : World) (hk : k ≤ X.length) (hX : HI w (.slice ao X.length cap) X) :
    ∃ vo vc, (∀ u : World, (Instr.slice 29 (.slice ao X.length cap) (some (.int .i64 (k : Int))) none none).run Try.prog u = .ok (.slice vo (X.length - k) vc) u) ∧ (∀ u : World, HI u (.slice ao X.length cap) X → HI u (.slice vo (X.length - k) vc) (X.drop k)) := by
  have hnc : X.length ≤ cap := by
    rcases hX with ⟨h, _, h3⟩ | ⟨ad, c, h, h3, _⟩
    · simp at h; simp [h]
    · cases h; exact h3
  refine ⟨if cap = k then ao else ao.map (·.add k), cap - k, fun u => ?_, fun u hu => ?_⟩
  · rw [run_slice_l (P := Try.prog) u 29 ao X.length cap (by kernel_rfl) .i64 k (by omega) (by omega)]
    have : (sizeOf (Try.prog.elem 29)).run Try.prog u = .ok 1 u := by kernel_rfl
    rw [this]
    simp [Result.andThen, sliced]
  · have hl : (X.drop k).length = X.length - k := by simp
    unfold HI
    rw [hl]
    rcases hu with ⟨h, h3, h4⟩ | ⟨ad, c, h, h3, hc⟩
    · have e : X = [] := by simpa [icells] using h4
      subst e
      simp at h
      obtain ⟨rfl, rfl⟩ := h
      simp at hk
      subst hk
      exact .inl ⟨by simp, by simp, by simp [icells]⟩
    · cases h
      refine .inr ⟨if cap = k then ad else ad.add k, cap - k, by split <;> simp, by omega, fun j x hj => ?_⟩
      have hj' : (icells X)[k + j]? = some x := by
        simp only [icells, List.map_drop, List.getElem?_drop] at hj ⊢
        exact hj
      have hlt := (List.getElem?_eq_some_iff.1 hj').1
      rw [icells_length] at hlt
      rw [if_neg (by omega)]
      have h0 := hc 0 _ (List.getElem?_eq_getElem (by rw [icells_length]; omega))
      obtain ⟨b, off, rfl⟩ := addr_of h0
      have := hc _ _ hj'
      rw [add_none] at this
      rw [add_none, add_none, Nat.add_assoc]
      exact this
end Go.Proofs.Ytppdcjjkkckokaa
