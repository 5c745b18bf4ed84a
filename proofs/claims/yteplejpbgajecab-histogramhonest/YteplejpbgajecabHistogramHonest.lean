/-
  For every two rows of numbers the law HistogramHonest returns true and leaves its arguments as they were: what histogram.Diff keeps are pairs of the same class, no more than could be kept; it answers no changes just for equal rows; something is kept where the rows have a member in common. No condition.
-/
import Derived.Test.YteplejpbgajecabPartC1
import Derived.Test.YteplejpbgajecabPartA7
import Derived.Test.YteplejpbgajecabPartA4
import Derived.Deep.CutRange
namespace Go.Proofs.Yteplejpbgajecab.histogramHonest
open Go.ChangeShapes Go.WideShapes Go.ChangeAt Go.RowKit

set_option maxRecDepth 10000 in
set_option maxHeartbeats 3000000 in
theorem walk (x y : List Int) (vx vy : Value) (w : World) (hwx : ∀ z ∈ x, w64 z) (hwy : ∀ z ∈ y, w64 z) (hx : HI w vx x) (hy : HI w vy y) :
    Calls Try.prog 5 #[vx, vy] w fun e w' => e = .returned (.bool true) ∧ Below w.heap.size w w' := by
  obtain ⟨xo, xc, rfl⟩ := Holds.form hx
  obtain ⟨yo, yc, rfl⟩ := Holds.form hy
  have HWX : Hid (∀ z ∈ x, w64 z) := hwx
  have HWY : Hid (∀ z ∈ y, w64 z) := hwy
  clear hwx hwy
  go_enter Try.func5, Try.ntmps5
  go_wp2_with fail
  refine (hiWorks_any w).mono ?_
  rintro e w0 ⟨rfl, hB0⟩
  by_cases h1 : 300 < x.length
  · have e1 : decide ((300 : Int) < (x.length : Int)) = true := decide_eq_true (by omega)
    go_wp2
    go_ret
    exact ⟨rfl, hB0⟩
  have e1 : decide ((300 : Int) < (x.length : Int)) = false := decide_eq_false (by omega)
  by_cases h2 : 300 < y.length
  · have e2 : decide ((300 : Int) < (y.length : Int)) = true := decide_eq_true (by omega)
    go_wp2
    go_ret
    exact ⟨rfl, hB0⟩
  have e2 : decide ((300 : Int) < (y.length : Int)) = false := decide_eq_false (by omega)
  have hx0 := HI.keep hx hB0 (Nat.le_refl _)
  have hy0 := HI.keep hy hB0 (Nat.le_refl _)
  obtain ⟨K, hK⟩ : ∃ K, hKeep x y = K := ⟨_, rfl⟩
  have HKp : Hid (Kpt x y K) := (by rw [← hK]; exact hKeep_kpt x y)
  obtain ⟨L, hL⟩ : ∃ L, mkL K y.length = L := ⟨_, rfl⟩
  have HL : Hid (mkL K y.length = L) := hL
  have HL0 : Hid (mkL (hKeep x y) y.length = L) := (by rw [hK]; exact hL)
  obtain ⟨n, hn⟩ : ∃ n, prs K = n := ⟨_, rfl⟩
  have HN : Hid (prs K = n) := hn
  obtain ⟨mo, hmo⟩ : ∃ n, lc x y = n := ⟨_, rfl⟩
  have HM : Hid (lc x y = mo) := hmo
  have hle : n ≤ mo := by rw [← hn, ← hmo, ← hK]; exact hKeep_le x y
  obtain ⟨r, hr⟩ : ∃ r, r = decide (x = y) := ⟨_, rfl⟩
  have HR : Hid (r = decide (x = y)) := hr
  have hLr : decide (L.length = 0) = r := by
    rw [hr, ← hL, ← hK]
    by_cases h : x = y
    · rw [decide_eq_true h, decide_eq_true]
      rw [(hKeep_nil x y (by omega) (by omega)).2 h]
      rfl
    · rw [decide_eq_false h, decide_eq_false]
      intro q
      exact h ((hKeep_nil x y (by omega) (by omega)).1 (List.eq_nil_of_length_eq_zero q))
  have hz : ((n : Int) == 0) = ((mo : Int) == 0) := by
    rcases Nat.eq_zero_or_pos mo with h | h
    · obtain rfl : n = 0 := by omega
      rw [h]
    · have h5 : 0 < n := by rw [← hn, ← hK]; exact hKeep_some x y (by rw [hmo]; exact h)
      have e8 : ((n : Int) == 0) = false := beq_eq_false_iff_ne.2 (by omega)
      have e9 : ((mo : Int) == 0) = false := beq_eq_false_iff_ne.2 (by omega)
      rw [e8, e9]
  clear hK hL hn hmo hr
  go_wp2_with fail
  refine (hiDiff_f x y _ _ _ hx0 hy0 (by omega) (by omega) HWX.out HWY.out L HL0).mono ?_
  rintro e w1 ⟨v1, rfl, hv1, hB1⟩
  obtain ⟨o1, c1, rfl⟩ := Holds.form hv1
  have hB01 := hB0.trans (hB1.mono hB0.size)
  have hx1 := HI.keep hx hB01 (Nat.le_refl _)
  have hy1 := HI.keep hy hB01 (Nat.le_refl _)
  clear hx0 hy0 hB0 hB1
  go_wp2_with fail
  refine (Honest_g x y L _ _ _ _ hv1 hx1 hy1 (by omega) (by omega) K HKp HL n HN).mono ?_
  rintro e w2 ⟨rfl, hB2⟩
  have hB02 := hB01.trans (hB2.mono hB01.size)
  have hx2 := HI.keep hx hB02 (Nat.le_refl _)
  have hy2 := HI.keep hy hB02 (Nat.le_refl _)
  have hv2 := HCh.keep hv1 hB2 (Nat.le_refl _)
  clear hx1 hy1 hB01 hB2 hv1
  go_wp2_with fail
  refine (Length_f x y _ _ _ hx2 hy2 (by omega) (by omega) mo HM).mono ?_
  rintro e w3 ⟨rfl, hB3⟩
  have hB03 := hB02.trans (hB3.mono hB02.size)
  have hx3 := HI.keep hx hB03 (Nat.le_refl _)
  have hy3 := HI.keep hy hB03 (Nat.le_refl _)
  have hv3 := HCh.keep hv2 hB3 (Nat.le_refl _)
  clear hx2 hy2 hB02 hB3 hv2
  have hle' : decide ((mo : Int) < (n : Int)) = false := decide_eq_false (by omega)
  have hle2 : decide ((n : Int) ≤ (mo : Int)) = true := decide_eq_true (by omega)
  go_wp2_with fail
  refine (SameI_dec _ _ x y _ hx3 hy3 (by omega) r HR).mono ?_
  rintro e w4 ⟨rfl, hB4⟩
  have hB04 := hB03.trans (hB4.mono hB03.size)
  have hv4 := HCh.keep hv3 hB4 (Nat.le_refl _)
  clear hx3 hy3 hB03 hB4 hv3
  have HLr : Hid (decide (L.length = 0) = r) := hLr
  have e5 : ((L.length : Int) == 0) = r := by
    rw [← hLr]
    by_cases h : L.length = 0
    · simp [h]
    · simp [h]
  clear hLr
  obtain ⟨zq, hzq⟩ : ∃ q, ((mo : Int) == 0) = q := ⟨_, rfl⟩
  rw [hzq] at hz
  go_wp2
  go_ret
  exact ⟨ret_bool (by simp), hB04⟩
set_option maxRecDepth 20000 in
theorem contract (H : Type) (enc : TypeId × Value → H) (W : World) (base : Nat) (args : Array Value) (ds gs : List (DataW H)) (before : List MemPlace)
    (hval : ∀ (j : Nat) t v, Try.f5.params[j]? = some t → args[j]? = some v → Value.okWide Try.prog W .any base t v)
    (hW : DataW.Whole enc Try.prog Try.f5.params.toList Rows.histogramHonestSpec.vars false W args.toList ds gs before) :
    Calls Try.prog 5 args W fun e W' => ∃ v, e = .returned v ∧ Rows.histogramHonestSpec.post enc Try.prog Try.f5 false true false false W args v W' := by
  have hW' := hW
  obtain ⟨p, q, hA0, hV, rfl, hfz, hnd⟩ := hW
  have hA : DataW.TrodAll enc Try.prog W 0 (fun _ => true) true Try.f5.params.toList args.toList ds p := hA0
  rw [Try.params5] at hA hval
  obtain ⟨v0, vs0, d0, ds0, p0, q0, hargs, rfl, rfl, h0, r0⟩ := trodAll_cons hA
  obtain ⟨v1, vs1, d1, ds1, p1, q1, rfl, rfl, rfl, h1, r1⟩ := trodAll_cons r0
  obtain ⟨rfl, rfl, rfl⟩ := trodAll_nil r1
  obtain rfl : args = #[v0, v1] := by cases args; simp_all
  obtain ⟨rfl, rfl⟩ := trodVars_none hV
  obtain ⟨a0, len0, cap0, rfl⟩ := okWide_slice Try.underlying22 (hval 0 22 v0 rfl rfl)
  have k0 := h0
  have lt0 : ∀ x ∈ p0, x.block < W.heap.size := by obtain ⟨m, hm⟩ := k0; exact DataW.trod_lt m _ _ _ hm
  obtain ⟨a1, len1, cap1, rfl⟩ := okWide_slice Try.underlying22 (hval 1 22 v1 rfl rfl)
  have k1 := h1
  have lt1 : ∀ x ∈ p1, x.block < W.heap.size := by obtain ⟨m, hm⟩ := k1; exact DataW.trod_lt m _ _ _ hm
  clear hA0
  obtain ⟨f0, hf0⟩ := h0
  obtain ⟨ws0, hv0, hwl0, hwf0⟩ := open_nums (by simpa [Value.cells] using hf0)
  obtain ⟨f1, hf1⟩ := h1
  obtain ⟨ws1, hv1, hwl1, hwf1⟩ := open_nums (by simpa [Value.cells] using hf1)
  have hw := walk ws0 ws1 (.slice a0 len0 cap0) (.slice a1 len1 cap1) W hwf0 hwf1 hv0 hv1
  refine hw.mono fun e W' ⟨he, bel⟩ => ?_
  subst he
  exact ⟨_, rfl, _, _, _, [], _, [], hW', trodAll_mk1 (shut_bool Try.underlying4 _), trodAll_cons_mk (Below.trod laidOut (by kernel_rfl) (of_decide_eq_true (by kernel_rfl)) k0 bel lt0) (trodAll_cons_mk (Below.trod laidOut (by kernel_rfl) (of_decide_eq_true (by kernel_rfl)) k1 bel lt1) trodAll_mk0), rfl, bel.frame _, fun h => by cases h⟩

set_option maxRecDepth 100000 in
theorem lifted (os : Os) (started : os.Started) (H : Type) (enc : TypeId × Value → H) :
    ReturnsInHanded {} Try.checked os 5 .any (Rows.histogramHonestSpec.pre6 enc Try.prog Try.f5 Rows.histogramHonestRow.domain false) (Rows.histogramHonestSpec.post enc Try.prog Try.f5 false true false false) := by
  refine returnsInHanded_of_change (C := Try.checked) own started (by kernel_rfl) Try.func5
    (ChangeSpec.witness6 (enc := enc) (C := Try.checked) false ⟨#[], #[.slice none 0 0, .slice none 0 0], []⟩ 8 (by kernel_rfl) (by kernel_rfl) (by kernel_rfl) (by kernel_rfl)) ?_
  intro W base args ds gs before hval hW _ _
  exact contract H enc W base args ds gs before hval hW

theorem proved : Rows.HistogramHonestSaid :=
  OpenClaim.holds_of_wide 5 Try.f5 rfl rfl rfl rfl rfl rfl rfl ⟨rfl, rfl, rfl, rfl, rfl⟩ rfl rfl rfl rfl rfl (by kernel_rfl) Try.func5 (by kernel_rfl)
    (of_decide_eq_true (by kernel_rfl)) (by unfold Func.isWrapper; first | (rw [if_pos (by decide +kernel)]; kernel_rfl) | (rw [if_neg (by decide +kernel)]; exact ⟨rfl, rfl⟩))
    (fun os started H enc _ => lifted os started H enc)
#print axioms proved
