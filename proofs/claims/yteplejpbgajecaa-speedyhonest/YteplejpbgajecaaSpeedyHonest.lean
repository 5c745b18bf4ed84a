/-
  For every two rows of numbers and every bound the law SpeedyHonest returns true and leaves its arguments as they were: what speedy.Diff keeps are pairs of the same class, no more than the least script keeps, and just as many where the bound is great enough; it answers no changes just for equal rows. No condition.
-/
import Derived.Test.YteplejpbgajecaaPartF1
import Derived.Test.YteplejpbgajecaaPartA4
import Derived.Deep.CutRange
namespace Go.Proofs.Yteplejpbgajecaa.speedyHonest
open Go.ChangeShapes Go.WideShapes Go.ChangeAt Go.RowKit

set_option maxRecDepth 10000 in
set_option maxHeartbeats 3000000 in
theorem walk (x y : List Int) (bound : Int) (vx vy : Value) (w : World) (_ : -9223372036854775808 ≤ bound ∧ bound ≤ 9223372036854775807) (hx : HI w vx x) (hy : HI w vy y) :
    Calls Try.prog 5 #[vx, vy, .int .i64 bound] w fun e w' => e = .returned (.bool true) ∧ Below w.heap.size w w' := by
  obtain ⟨xo, xc, rfl⟩ := Holds.form hx
  obtain ⟨yo, yc, rfl⟩ := Holds.form hy
  go_enter Try.func5, Try.ntmps5
  go_wp2_with fail
  refine (spWorks_any w).mono ?_
  rintro e w0 ⟨rfl, hB0⟩
  by_cases h1 : 400 < x.length
  · have e1 : decide ((400 : Int) < (x.length : Int)) = true := decide_eq_true (by omega)
    go_wp2
    go_ret
    exact ⟨rfl, hB0⟩
  have e1 : decide ((400 : Int) < (x.length : Int)) = false := decide_eq_false (by omega)
  by_cases h2 : 400 < y.length
  · have e2 : decide ((400 : Int) < (y.length : Int)) = true := decide_eq_true (by omega)
    go_wp2
    go_ret
    exact ⟨rfl, hB0⟩
  have e2 : decide ((400 : Int) < (y.length : Int)) = false := decide_eq_false (by omega)
  have hx0 := HI.keep hx hB0 (Nat.le_refl _)
  have hy0 := HI.keep hy hB0 (Nat.le_refl _)
  obtain ⟨K, hK⟩ : ∃ K, sKeep bound x y = K := ⟨_, rfl⟩
  have HKp : Hid (Kpt x y K) := (by rw [← hK]; exact sKeep_kpt bound x y)
  obtain ⟨L, hL⟩ : ∃ L, mkL K y.length = L := ⟨_, rfl⟩
  have HL : Hid (mkL K y.length = L) := hL
  have HL0 : Hid (mkL (sKeep bound x y) y.length = L) := (by rw [hK]; exact hL)
  obtain ⟨n, hn⟩ : ∃ n, prs K = n := ⟨_, rfl⟩
  have HN : Hid (prs K = n) := hn
  obtain ⟨mo, hmo⟩ : ∃ n, lc x y = n := ⟨_, rfl⟩
  have HM : Hid (lc x y = mo) := hmo
  have hle : n ≤ mo := by rw [← hn, ← hmo, ← hK]; exact sKeep_le bound x y
  obtain ⟨P, hP⟩ : ∃ P, x.length * y.length = P := ⟨_, rfl⟩
  have hPi : (x.length : Int) * (y.length : Int) = (P : Int) := by rw [← hP]; simp
  have hPb : P ≤ 400 * 400 := by rw [← hP]; exact Nat.mul_le_mul (by omega) (by omega)
  have hmost : bound < (P : Int) ∨ n = mo := by
    rcases Int.lt_or_le bound (P : Int) with h | h
    · exact .inl h
    · right
      rw [← hn, ← hmo, ← hK]
      exact sKeep_most bound x y (by rw [hPi]; exact h)
  obtain ⟨r, hr⟩ : ∃ r, r = decide (x = y) := ⟨_, rfl⟩
  have HR : Hid (r = decide (x = y)) := hr
  have hLr : decide (L.length = 0) = r := by
    rw [hr, ← hL, ← hK]
    by_cases h : x = y
    · rw [decide_eq_true h, decide_eq_true]
      rw [(sKeep_nil bound x y (by omega) (by omega)).2 h]
      rfl
    · rw [decide_eq_false h, decide_eq_false]
      intro q
      exact h ((sKeep_nil bound x y (by omega) (by omega)).1 (List.eq_nil_of_length_eq_zero q))
  clear hK hL hn hmo hr hP
  go_wp2_with fail
  refine (spDiff_f x y bound _ _ _ hx0 hy0 (by omega) (by omega) L HL0).mono ?_
  rintro e w1 ⟨v1, rfl, hv1, hB1⟩
  obtain ⟨o1, c1, rfl⟩ := Holds.form hv1
  have hB01 := hB0.trans (hB1.mono hB0.size)
  have hx1 := HI.keep hx hB01 (Nat.le_refl _)
  have hy1 := HI.keep hy hB01 (Nat.le_refl _)
  clear hx0 hy0 hB0 hB1
  go_wp2_with fail
  refine (Honest_g x y L _ _ _ _ hv1 hx1 hy1 (by omega) (by omega) K HKp HL n HN).mono ?_
  rintro e w2 ⟨rfl, hB2⟩
  have hB02 := hB01.trans (hB2.mono hB01.size)
  have hx2 := HI.keep hx hB02 (Nat.le_refl _)
  have hy2 := HI.keep hy hB02 (Nat.le_refl _)
  have hv2 := HCh.keep hv1 hB2 (Nat.le_refl _)
  clear hx1 hy1 hB01 hB2 hv1
  go_wp2_with fail
  refine (Length_f x y _ _ _ hx2 hy2 (by omega) (by omega) mo HM).mono ?_
  rintro e w3 ⟨rfl, hB3⟩
  have hB03 := hB02.trans (hB3.mono hB02.size)
  have hx3 := HI.keep hx hB03 (Nat.le_refl _)
  have hy3 := HI.keep hy hB03 (Nat.le_refl _)
  have hv3 := HCh.keep hv2 hB3 (Nat.le_refl _)
  clear hx2 hy2 hB02 hB3 hv2
  have hle' : decide ((mo : Int) < (n : Int)) = false := decide_eq_false (by omega)
  have hle2 : decide ((n : Int) ≤ (mo : Int)) = true := decide_eq_true (by omega)
  have e5 : ((L.length : Int) == 0) = r := by
    rw [← hLr]
    by_cases h : L.length = 0
    · simp [h]
    · simp [h]
  have HLr : Hid (decide (L.length = 0) = r) := hLr
  clear hLr
  by_cases hbp : bound < (P : Int)
  · have e6 : decide (bound < (P : Int)) = true := decide_eq_true hbp
    clear hmost
    go_wp2_with fail
    refine (SameI_dec _ _ x y _ hx3 hy3 (by omega) r HR).mono ?_
    rintro e w4 ⟨rfl, hB4⟩
    have hB04 := hB03.trans (hB4.mono hB03.size)
    clear hx3 hy3 hB03 hB4 hv3
    go_wp2
    go_ret
    exact ⟨ret_bool (by simp), hB04⟩
  · have e6 : decide (bound < (P : Int)) = false := decide_eq_false hbp
    obtain rfl : n = mo := by omega
    clear hmost
    go_wp2_with fail
    refine (SameI_dec _ _ x y _ hx3 hy3 (by omega) r HR).mono ?_
    rintro e w4 ⟨rfl, hB4⟩
    have hB04 := hB03.trans (hB4.mono hB03.size)
    clear hx3 hy3 hB03 hB4 hv3
    go_wp2
    go_ret
    exact ⟨ret_bool (by simp), hB04⟩
set_option maxRecDepth 20000 in
theorem contract (H : Type) (enc : TypeId × Value → H) (W : World) (base : Nat) (args : Array Value) (ds gs : List (DataW H)) (before : List MemPlace)
    (hval : ∀ (j : Nat) t v, Try.f5.params[j]? = some t → args[j]? = some v → Value.okWide Try.prog W .any base t v)
    (hW : DataW.Whole enc Try.prog Try.f5.params.toList Rows.speedyHonestSpec.vars false W args.toList ds gs before) :
    Calls Try.prog 5 args W fun e W' => ∃ v, e = .returned v ∧ Rows.speedyHonestSpec.post enc Try.prog Try.f5 false true false false W args v W' := by
  have hW' := hW
  obtain ⟨p, q, hA0, hV, rfl, hfz, hnd⟩ := hW
  have hA : DataW.TrodAll enc Try.prog W 0 (fun _ => true) true Try.f5.params.toList args.toList ds p := hA0
  rw [Try.params5] at hA hval
  obtain ⟨v0, vs0, d0, ds0, p0, q0, hargs, rfl, rfl, h0, r0⟩ := trodAll_cons hA
  obtain ⟨v1, vs1, d1, ds1, p1, q1, rfl, rfl, rfl, h1, r1⟩ := trodAll_cons r0
  obtain ⟨v2, vs2, d2, ds2, p2, q2, rfl, rfl, rfl, h2, r2⟩ := trodAll_cons r1
  obtain ⟨rfl, rfl, rfl⟩ := trodAll_nil r2
  obtain rfl : args = #[v0, v1, v2] := by cases args; simp_all
  obtain ⟨rfl, rfl⟩ := trodVars_none hV
  obtain ⟨a0, len0, cap0, rfl⟩ := okWide_slice Try.underlying22 (hval 0 22 v0 rfl rfl)
  have k0 := h0
  have lt0 : ∀ x ∈ p0, x.block < W.heap.size := by obtain ⟨m, hm⟩ := k0; exact DataW.trod_lt m _ _ _ hm
  obtain ⟨a1, len1, cap1, rfl⟩ := okWide_slice Try.underlying22 (hval 1 22 v1 rfl rfl)
  have k1 := h1
  have lt1 : ∀ x ∈ p1, x.block < W.heap.size := by obtain ⟨m, hm⟩ := k1; exact DataW.trod_lt m _ _ _ hm
  obtain ⟨n2, rfl, rfl, rfl, wn2⟩ := open_int Try.underlying3 (hval 2 3 v2 rfl rfl) h2
  clear hA0
  obtain ⟨f0, hf0⟩ := h0
  obtain ⟨ws0, hv0, hwl0, hwf0⟩ := open_nums (by simpa [Value.cells] using hf0)
  obtain ⟨f1, hf1⟩ := h1
  obtain ⟨ws1, hv1, hwl1, hwf1⟩ := open_nums (by simpa [Value.cells] using hf1)
  have hw := walk ws0 ws1 n2 (.slice a0 len0 cap0) (.slice a1 len1 cap1) W (bounds_i64 wn2) hv0 hv1
  refine hw.mono fun e W' ⟨he, bel⟩ => ?_
  subst he
  exact ⟨_, rfl, _, _, _, [], _, [], hW', trodAll_mk1 (shut_bool Try.underlying4 _), trodAll_cons_mk (Below.trod laidOut (by kernel_rfl) (of_decide_eq_true (by kernel_rfl)) k0 bel lt0) (trodAll_cons_mk (Below.trod laidOut (by kernel_rfl) (of_decide_eq_true (by kernel_rfl)) k1 bel lt1) (trodAll_cons_mk (shut_int Try.underlying3 wn2) trodAll_mk0)), rfl, bel.frame _, fun h => by cases h⟩

set_option maxRecDepth 100000 in
theorem lifted (os : Os) (started : os.Started) (H : Type) (enc : TypeId × Value → H) :
    ReturnsInHanded {} Try.checked os 5 .any (Rows.speedyHonestSpec.pre6 enc Try.prog Try.f5 Rows.speedyHonestRow.domain false) (Rows.speedyHonestSpec.post enc Try.prog Try.f5 false true false false) := by
  refine returnsInHanded_of_change (C := Try.checked) own started (by kernel_rfl) Try.func5
    (ChangeSpec.witness6 (enc := enc) (C := Try.checked) false ⟨#[], #[.slice none 0 0, .slice none 0 0, .int .i64 0], []⟩ 8 (by kernel_rfl) (by kernel_rfl) (by kernel_rfl) (by kernel_rfl)) ?_
  intro W base args ds gs before hval hW _ _
  exact contract H enc W base args ds gs before hval hW

theorem proved : Rows.SpeedyHonestSaid :=
  OpenClaim.holds_of_wide 5 Try.f5 rfl rfl rfl rfl rfl rfl rfl ⟨rfl, rfl, rfl, rfl, rfl⟩ rfl rfl rfl rfl rfl (by kernel_rfl) Try.func5 (by kernel_rfl)
    (of_decide_eq_true (by kernel_rfl)) (by unfold Func.isWrapper; first | (rw [if_pos (by decide +kernel)]; kernel_rfl) | (rw [if_neg (by decide +kernel)]; exact ⟨rfl, rfl⟩))
    (fun os started H enc _ => lifted os started H enc)
#print axioms proved
