/-
  For every two rows of numbers, the law MinimalWhole returns true and leaves its arguments as they were: minimal.Length is the first row's length just if that row can be had from the second by leaving out members, and minimal.Diff has no changes just if the two are the same. No condition is asked.
-/
import Derived.Test.YtoacmaloiaeniabPartC1
import Derived.Test.YtoacmaloiaeniabPartB1
import Derived.Test.YtoacmaloiaeniabPartA3
import Derived.JoinedOf
import Derived.Handed
namespace Go.Proofs.Ytoacmaloiaeniab.minimalWhole
open Go.ChangeShapes Go.WideShapes Go.ChangeAt Go.RowKit

set_option maxRecDepth 10000 in
set_option maxHeartbeats 4000000 in
theorem walk (x y : List Int) (vx vy : Value) (w : World) (hx : HI w vx x) (hy : HI w vy y) :
    Calls Try.prog 6 #[vx, vy] w fun e w' => e = .returned (.bool true) ∧ Below w.heap.size w w' := by
  obtain ⟨xo, xc, rfl⟩ := Holds.form hx
  obtain ⟨yo, yc, rfl⟩ := Holds.form hy
  go_enter Try.func6, Try.ntmps6
  go_wp2_with fail
  refine (works_any w).mono ?_
  rintro e w0 ⟨rfl, hB0⟩
  by_cases h1 : 600 < x.length
  · have h1' : (600 : Int) < (x.length : Int) := by omega
    go_wp2
    go_ret
    exact ⟨rfl, hB0⟩
  by_cases h2 : 600 < y.length
  · have h2' : (600 : Int) < (y.length : Int) := by omega
    have h1' : ¬ (600 : Int) < (x.length : Int) := by omega
    go_wp2
    go_ret
    exact ⟨rfl, hB0⟩
  have h1' : ¬ (600 : Int) < (x.length : Int) := by omega
  have h2' : ¬ (600 : Int) < (y.length : Int) := by omega
  obtain ⟨r, hr⟩ : ∃ r, gr x y = r := ⟨_, rfl⟩
  have HR : Hid (gr x y = r) := hr
  clear hr
  go_wp2
  go_loopw [5, 6] (fun jv iv wr => ∃ (j i : Nat), j ≤ x.length ∧ i ≤ y.length ∧ jv = .int .i64 (j : Int) ∧ iv = .int .i64 (i : Int) ∧ Below w.heap.size w wr ∧ Hid (j + gr (x.drop j) (y.drop i) = r)) (fun _ iv _ => y.length - (intOf iv).toNat)
  case atStart => exact ⟨0, 0, Nat.zero_le _, Nat.zero_le _, rfl, rfl, hB0, (by show _ = _; rw [← HR.out]; simp)⟩
  case round =>
    obtain ⟨j, i, hj, hi, rfl, rfl, hB, hG⟩ := hrel
    by_cases hiy : i < y.length
    · by_cases hjx : j < x.length
      · obtain ⟨b1, o1, rfl, _, hc1⟩ := HI.at (HI.keep hx hB (Nat.le_refl _)) (by omega)
        obtain ⟨b2, o2, rfl, _, hc2⟩ := HI.at (HI.keep hy hB (Nat.le_refl _)) (by omega)
        have d1 := hc1 j hjx
        have d2 := hc2 i hiy
        have hG' := hG.out
        rw [gr_step x y j i hjx hiy] at hG'
        obtain ⟨xk, hxk⟩ : ∃ z, x[j] = z := ⟨_, rfl⟩
        obtain ⟨yk, hyk⟩ : ∃ z, y[i] = z := ⟨_, rfl⟩
        rw [hxk] at d1 hG'
        rw [hyk] at d2 hG'
        clear hc1 hc2 hxk hyk hG
        have i1 : 0 ≤ (j : Int) := by omega
        have i2 : (j : Int) < (x.length : Int) := by omega
        have i3 : 0 ≤ (i : Int) := by omega
        have i4 : (i : Int) < (y.length : Int) := by omega
        by_cases hxy : xk = yk
        · rw [if_pos hxy] at hG'
          have HG : Hid (j + 1 + gr (x.drop (j + 1)) (y.drop (i + 1)) = r) := (by show _ = _; omega)
          clear hG'
          go_wp2_with fail
          go_quiet (fail)
          go_wp2
          go_roundw
          case rel => exact ⟨j + 1, i + 1, by omega, by omega, by go_num, by go_num, Below.dN hB _, HG⟩
          case measure => simp [intOf]; omega
        · rw [if_neg hxy] at hG'
          have hxy' : decide (xk = yk) = false := decide_eq_false hxy
          have HG : Hid (j + gr (x.drop j) (y.drop (i + 1)) = r) := hG'
          clear hG'
          go_wp2_with fail
          go_quiet (fail)
          go_wp2
          go_roundw
          case rel => exact ⟨j, i + 1, by omega, by omega, rfl, by go_num, Below.dN hB _, HG⟩
          case measure => simp [intOf]; omega
      · have hjr : j = r := by have := hG.out; rw [gr_end x y j i (.inl (by omega))] at this; omega
        have i2 : ¬ (j : Int) < (x.length : Int) := by omega
        have i4 : (i : Int) < (y.length : Int) := by omega
        subst hjr
        clear hG
        have hx1 := HI.keep hx hB (Nat.le_refl _)
        have hy1 := HI.keep hy hB (Nat.le_refl _)
        obtain ⟨n, hn⟩ : ∃ n, lc x y = n := ⟨_, rfl⟩
        have HN : Hid (lc x y = n) := hn
        clear hn
        go_wp2_with fail
        refine (Length_f x y _ _ _ hx1 hy1 (by omega) (by omega) n HN).mono ?_
        rintro e w1 ⟨rfl, hB1⟩
        have hB01 := hB.trans (hB1.mono hB.size)
        have hx2 := HI.keep hx hB01 (Nat.le_refl _)
        have hy2 := HI.keep hy hB01 (Nat.le_refl _)
        clear hx1 hy1 hB1 hB
        obtain ⟨L, hL⟩ : ∃ L, mkL (kp 0 x y) y.length = L := ⟨_, rfl⟩
        have HL : Hid (mkL (kp 0 x y) y.length = L) := hL
        clear hL
        go_wp2_with fail
        refine (Diff_f x y _ _ _ hx2 hy2 (by omega) (by omega) L HL).mono ?_
        rintro e w2 ⟨v2, rfl, hv2, hB2⟩
        have hB02 := hB01.trans (hB2.mono hB01.size)
        have hx3 := HI.keep hx hB02 (Nat.le_refl _)
        have hy3 := HI.keep hy hB02 (Nat.le_refl _)
        clear hx2 hy2 hB2 hB01
        obtain ⟨o2, c2, rfl⟩ := Holds.form hv2
        have hse : Hid ((n = x.length ↔ j = x.length) ∧ (L.length = 0 ↔ x = y)) := (by
          refine ⟨?_, ?_⟩
          · rw [← HN.out, ← HR.out, lc_all, gr_all]
          · rw [← mk_nil x y (by omega) (by omega), HL.out, List.length_eq_zero_iff])
        have hb1 : decide ((n : Int) = (x.length : Int)) = decide ((j : Int) = (x.length : Int)) := decide_eq_decide.2 (by have := hse.out.1; omega)
        have hb2 : decide ((L.length : Int) = 0) = decide (x = y) := decide_eq_decide.2 (by have := hse.out.2; rw [← this]; omega)
        obtain ⟨q, hq⟩ : ∃ q, decide (x = y) = q := ⟨_, rfl⟩
        rw [hq] at hb2
        have HQ : Hid (q = decide (x = y)) := hq.symm
        clear hq
        go_wp2_with fail
        refine (SameI_dec _ _ x y _ hx3 hy3 (by omega) q HQ).mono ?_
        rintro e w3 ⟨rfl, hB3⟩
        go_wp2
        go_ret
        have hb3 : (((L.length : Int) == 0) == q) = true := by rw [← hb2]; exact beq_self_eq_true (decide ((L.length : Int) = 0))
        refine ⟨?_, hB02.trans (hB3.mono hB02.size)⟩
        show Ending.returned (.bool (((L.length : Int) == 0) == q)) = _
        rw [hb3]
    · have hjr : j = r := by have := hG.out; rw [gr_end x y j i (.inr (by omega))] at this; omega
      have i4 : ¬ (i : Int) < (y.length : Int) := by omega
      subst hjr
      clear hG
      have hx1 := HI.keep hx hB (Nat.le_refl _)
      have hy1 := HI.keep hy hB (Nat.le_refl _)
      obtain ⟨n, hn⟩ : ∃ n, lc x y = n := ⟨_, rfl⟩
      have HN : Hid (lc x y = n) := hn
      clear hn
      go_wp2_with fail
      refine (Length_f x y _ _ _ hx1 hy1 (by omega) (by omega) n HN).mono ?_
      rintro e w1 ⟨rfl, hB1⟩
      have hB01 := hB.trans (hB1.mono hB.size)
      have hx2 := HI.keep hx hB01 (Nat.le_refl _)
      have hy2 := HI.keep hy hB01 (Nat.le_refl _)
      clear hx1 hy1 hB1 hB
      obtain ⟨L, hL⟩ : ∃ L, mkL (kp 0 x y) y.length = L := ⟨_, rfl⟩
      have HL : Hid (mkL (kp 0 x y) y.length = L) := hL
      clear hL
      go_wp2_with fail
      refine (Diff_f x y _ _ _ hx2 hy2 (by omega) (by omega) L HL).mono ?_
      rintro e w2 ⟨v2, rfl, hv2, hB2⟩
      have hB02 := hB01.trans (hB2.mono hB01.size)
      have hx3 := HI.keep hx hB02 (Nat.le_refl _)
      have hy3 := HI.keep hy hB02 (Nat.le_refl _)
      clear hx2 hy2 hB2 hB01
      obtain ⟨o2, c2, rfl⟩ := Holds.form hv2
      have hse : Hid ((n = x.length ↔ j = x.length) ∧ (L.length = 0 ↔ x = y)) := (by
        refine ⟨?_, ?_⟩
        · rw [← HN.out, ← HR.out, lc_all, gr_all]
        · rw [← mk_nil x y (by omega) (by omega), HL.out, List.length_eq_zero_iff])
      have hb1 : decide ((n : Int) = (x.length : Int)) = decide ((j : Int) = (x.length : Int)) := decide_eq_decide.2 (by have := hse.out.1; omega)
      have hb2 : decide ((L.length : Int) = 0) = decide (x = y) := decide_eq_decide.2 (by have := hse.out.2; rw [← this]; omega)
      obtain ⟨q, hq⟩ : ∃ q, decide (x = y) = q := ⟨_, rfl⟩
      rw [hq] at hb2
      have HQ : Hid (q = decide (x = y)) := hq.symm
      clear hq
      go_wp2_with fail
      refine (SameI_dec _ _ x y _ hx3 hy3 (by omega) q HQ).mono ?_
      rintro e w3 ⟨rfl, hB3⟩
      go_wp2
      go_ret
      have hb3 : (((L.length : Int) == 0) == q) = true := by rw [← hb2]; exact beq_self_eq_true (decide ((L.length : Int) = 0))
      refine ⟨?_, hB02.trans (hB3.mono hB02.size)⟩
      show Ending.returned (.bool (((L.length : Int) == 0) == q)) = _
      rw [hb3]

theorem contract (H : Type) (enc : TypeId × Value → H) (W : World) (base : Nat) (args : Array Value) (ds gs : List (DataW H)) (before : List MemPlace)
    (hval : ∀ (j : Nat) t v, Try.f6.params[j]? = some t → args[j]? = some v → Value.okWide Try.prog W .any base t v)
    (hW : DataW.Whole enc Try.prog Try.f6.params.toList Rows.minimalWholeSpec.vars false W args.toList ds gs before) :
    Calls Try.prog 6 args W fun e W' => ∃ v, e = .returned v ∧ Rows.minimalWholeSpec.post enc Try.prog Try.f6 false true false false W args v W' := by
  have hW' := hW
  obtain ⟨p, q, hA0, hV, rfl, hfz, hnd⟩ := hW
  have hA : DataW.TrodAll enc Try.prog W 0 (fun _ => true) true Try.f6.params.toList args.toList ds p := hA0
  rw [Try.params6] at hA hval
  obtain ⟨v0, vs0, d0, ds0, p0, q0, hargs, rfl, rfl, h0, r0⟩ := trodAll_cons hA
  obtain ⟨v1, vs1, d1, ds1, p1, q1, rfl, rfl, rfl, h1, r1⟩ := trodAll_cons r0
  obtain ⟨rfl, rfl, rfl⟩ := trodAll_nil r1
  obtain rfl : args = #[v0, v1] := by cases args; simp_all
  obtain ⟨rfl, rfl⟩ := trodVars_none hV
  obtain ⟨a0, len0, cap0, rfl⟩ := okWide_slice Try.underlying22 (hval 0 22 v0 rfl rfl)
  have k0 := h0
  have lt0 : ∀ x ∈ p0, x.block < W.heap.size := by obtain ⟨m, hm⟩ := k0; exact DataW.trod_lt m _ _ _ hm
  obtain ⟨a1, len1, cap1, rfl⟩ := okWide_slice Try.underlying22 (hval 1 22 v1 rfl rfl)
  have k1 := h1
  have lt1 : ∀ x ∈ p1, x.block < W.heap.size := by obtain ⟨m, hm⟩ := k1; exact DataW.trod_lt m _ _ _ hm
  clear hA0
  obtain ⟨f0, hf0⟩ := h0
  obtain ⟨ws0, hv0, hwl0, hwf0⟩ := open_nums (by simpa [Value.cells] using hf0)
  obtain ⟨f1, hf1⟩ := h1
  obtain ⟨ws1, hv1, hwl1, hwf1⟩ := open_nums (by simpa [Value.cells] using hf1)
  have hw := walk ws0 ws1 (.slice a0 len0 cap0) (.slice a1 len1 cap1) W  hv0 hv1
  refine hw.mono fun e W' ⟨he, bel⟩ => ?_
  subst he
  exact ⟨_, rfl, _, _, _, [], _, [], hW', trodAll_mk1 (shut_bool Try.underlying4 _), trodAll_cons_mk (Below.trod laidOut (by kernel_rfl) (of_decide_eq_true (by kernel_rfl)) k0 bel lt0) (trodAll_cons_mk (Below.trod laidOut (by kernel_rfl) (of_decide_eq_true (by kernel_rfl)) k1 bel lt1) trodAll_mk0), rfl, bel.frame _, fun h => by cases h⟩

set_option maxRecDepth 100000 in
theorem lifted (os : Os) (started : os.Started) (H : Type) (enc : TypeId × Value → H) :
    ReturnsInHanded {} Try.checked os 6 .any (Rows.minimalWholeSpec.pre6 enc Try.prog Try.f6 Rows.minimalWholeRow.domain false) (Rows.minimalWholeSpec.post enc Try.prog Try.f6 false true false false) := by
  refine returnsInHanded_of_change (C := Try.checked) own started (by kernel_rfl) Try.func6
    (ChangeSpec.witness6 (enc := enc) (C := Try.checked) false ⟨#[], #[.slice none 0 0, .slice none 0 0], []⟩ 8 (by kernel_rfl) (by kernel_rfl) (by kernel_rfl) (by kernel_rfl)) ?_
  intro W base args ds gs before hval hW _ _
  exact contract H enc W base args ds gs before hval hW

theorem proved : Rows.MinimalWholeSaid :=
  OpenClaim.holds_of_wide 6 Try.f6 rfl rfl rfl rfl rfl rfl rfl ⟨rfl, rfl, rfl, rfl, rfl⟩ rfl rfl rfl rfl rfl (by kernel_rfl) Try.func6 (by kernel_rfl)
    (of_decide_eq_true (by kernel_rfl)) (by unfold Func.isWrapper; first | (rw [if_pos (by decide +kernel)]; kernel_rfl) | (rw [if_neg (by decide +kernel)]; exact ⟨rfl, rfl⟩))
    (fun os started H enc _ => lifted os started H enc)
#print axioms proved
end Go.Proofs.Ytoacmaloiaeniab.minimalWhole
