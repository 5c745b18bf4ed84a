/-
  For every two rows of numbers the law MinimalDiffs returns true and leaves its arguments as they were: minimal.Diff and minimal.Length answer as the plain reference does, and refuse rows that are too long. No condition.
-/
import Derived.Test.YtoacmaloiaeniabPartD1
import Derived.Test.YtoacmaloiaeniabPartA3
namespace Go.Proofs.Ytoacmaloiaeniab.minimalDiffs
open Go.ChangeShapes Go.WideShapes Go.ChangeAt Go.RowKit

theorem small_f (x y : List Int) (vx vy : Value) (w : World) (hx : HI w vx x) (hy : HI w vy y) (r : Bool) (hr : Hid (r = (decide (x.length ≤ 200) && decide (y.length ≤ 200)))) :
    Calls Try.prog 8 #[vx, vy] w fun e w' => e = .returned (.bool r) ∧ w = w' := by
  obtain ⟨xo, xc, rfl⟩ := Holds.form hx
  obtain ⟨yo, yc, rfl⟩ := Holds.form hy
  have h := hr.out
  by_cases h1 : x.length ≤ 200
  · by_cases h2 : y.length ≤ 200
    · obtain rfl : r = true := by rw [h]; simp [h1, h2]
      go_enter Try.func8, Try.ntmps8
      clear h hr
      go_wp2
      go_ret
      exact ⟨ret_bool (by simp; omega), rfl⟩
    · obtain rfl : r = false := by rw [h]; simp [h1]; omega
      go_enter Try.func8, Try.ntmps8
      clear h hr
      go_wp2
      go_ret
      exact ⟨ret_bool (by simp; omega), rfl⟩
  · obtain rfl : r = false := by rw [h]; simp; omega
    go_enter Try.func8, Try.ntmps8
    clear h hr
    go_wp2
    go_ret
    exact ⟨ret_bool (by simp), rfl⟩

set_option maxRecDepth 10000 in
set_option maxHeartbeats 4000000 in
theorem too_long (x y : List Int) (vx vy : Value) (w : World) (hx : HI w vx x) (hy : HI w vy y) (hl : 4096 < x.length ∨ 4096 < y.length) :
    Calls Try.prog 3 #[vx, vy] w fun e w' => e = .returned (.bool true) ∧ Below w.heap.size w w' := by
  obtain ⟨xo, xc, rfl⟩ := Holds.form hx
  obtain ⟨yo, yc, rfl⟩ := Holds.form hy
  have HL : Hid (4096 < x.length ∨ 4096 < y.length) := hl
  clear hl
  go_enter Try.func3, Try.ntmps3
  go_wp2_with fail
  refine (small_f x y _ _ _ hx hy false (by show _ = _; symm; have := HL.out; simp; omega)).mono ?_
  rintro e w0 ⟨rfl, rfl⟩
  go_wp2_with fail
  refine (Length_long x y _ _ w hx hy HL.out).mono ?_
  rintro e w1 ⟨rfl, hB1⟩
  go_wp2_with fail
  refine (Diff_long x y _ _ w1 (HI.keep hx hB1 (Nat.le_refl _)) (HI.keep hy hB1 (Nat.le_refl _)) HL.out).mono ?_
  rintro e w2 ⟨rfl, hB2⟩
  have hB := hB1.trans (hB2.mono hB1.size)
  by_cases h1 : 4096 < x.length
  · go_wp2
    go_ret
    exact ⟨rfl, hB⟩
  · have h2 : 4096 < y.length := by have := HL.out; omega
    go_wp2
    go_ret
    exact ⟨rfl, hB⟩

set_option maxRecDepth 10000 in
set_option maxHeartbeats 4000000 in
theorem let_go (x y : List Int) (vx vy : Value) (w : World) (hx : HI w vx x) (hy : HI w vy y) (hl : 200 < x.length ∨ 200 < y.length) (hxl : x.length ≤ 4096) (hyl : y.length ≤ 4096) :
    Calls Try.prog 3 #[vx, vy] w fun e w' => e = .returned (.bool true) ∧ Below w.heap.size w w' := by
  obtain ⟨xo, xc, rfl⟩ := Holds.form hx
  obtain ⟨yo, yc, rfl⟩ := Holds.form hy
  have HL : Hid (200 < x.length ∨ 200 < y.length) := hl
  clear hl
  go_enter Try.func3, Try.ntmps3
  go_wp2_with fail
  refine (small_f x y _ _ _ hx hy false (by show _ = _; symm; have := HL.out; simp; omega)).mono ?_
  rintro e w0 ⟨rfl, rfl⟩
  go_wp2_with fail
  refine (Length_f x y _ _ w hx hy hxl hyl (lc x y) rfl).mono ?_
  rintro e w1 ⟨rfl, hB1⟩
  generalize lc x y = r at *
  go_wp2_with fail
  refine (Diff_f x y _ _ w1 (HI.keep hx hB1 (Nat.le_refl _)) (HI.keep hy hB1 (Nat.le_refl _)) hxl hyl _ rfl).mono ?_
  rintro e w2 ⟨v2, rfl, hv2, hB2⟩
  generalize mkL (kp 0 x y) y.length = L at *
  obtain ⟨o2, c2, rfl⟩ := Holds.form hv2
  have hB := hB1.trans (hB2.mono hB1.size)
  go_wp2
  go_ret
  exact ⟨rfl, hB⟩

set_option maxRecDepth 10000 in
set_option maxHeartbeats 4000000 in
theorem all_small (x y : List Int) (vx vy : Value) (w : World) (hx : HI w vx x) (hy : HI w vy y) (hxl : x.length ≤ 200) (hyl : y.length ≤ 200) :
    Calls Try.prog 3 #[vx, vy] w fun e w' => e = .returned (.bool true) ∧ Below w.heap.size w w' := by
  obtain ⟨xo, xc, rfl⟩ := Holds.form hx
  obtain ⟨yo, yc, rfl⟩ := Holds.form hy
  obtain ⟨r, hr⟩ : ∃ r, lc x y = r := ⟨_, rfl⟩
  obtain ⟨L, hL⟩ : ∃ L, mkL (kp 0 x y) y.length = L := ⟨_, rfl⟩
  have hLl : L.length ≤ 402 := by
    rw [← hL]
    unfold mkL
    have h1 := betw_len 0 0 (keptR 0 (kp 0 x y) ++ [⟨((kp 0 x y).length : Int), (y.length : Int), 0⟩])
    have h2 := kept_len 0 (kp 0 x y)
    rw [kp_length] at h2
    rw [List.length_append, List.length_singleton] at h1
    omega
  have Hr : Hid (lc x y = r) := hr
  have HL : Hid (mkL (kp 0 x y) y.length = L) := hL
  clear hr hL
  go_enter Try.func3, Try.ntmps3
  go_wp2_with fail
  refine (small_f x y _ _ _ hx hy true (by show _ = _; symm; simp; omega)).mono ?_
  rintro e w0 ⟨rfl, rfl⟩
  go_wp2_with (at_builtin; refine wpList_append_h _ (by kernel_rfl) (.tmp 64) (.tmp 65) 22 3 (.int .i64 0) 1 8 rfl Try.underlying22 infoInt rfl (by decide) (by decide) w.heap.size _ 0 [] rfl (nil_row_new _ _ _ rfl (by omega)) _ x.length (icells x) rfl ?hold1 (by rw [icells_length, Nat.mul_one]) (icells_one x) (by omega) (by simp) ?_)
  case hold1 => exact HI.keep hx ((Below.refl _ w).alloc (Nat.le_refl _) _) (Nat.le_refl _)
  intro va w1 hown1 hgrow1
  have hB1 : Below w.heap.size w w1 := ((Below.refl _ w).alloc (Nat.le_refl _) _).grown hgrow1 (by simp) (fun j hj => by simp [Value.ownBlock] at hj; omega)
  have hs1 := hB1.size
  have ha1 : HI w1 va x := by simpa [HI] using holds_of hown1
  obtain ⟨ao, ac, rfl⟩ := Holds.form ha1
  clear hown1 hgrow1
  go_wp2_with (at_builtin; refine wpList_append_h _ (by kernel_rfl) (.tmp 67) (.tmp 68) 22 3 (.int .i64 0) 1 8 rfl Try.underlying22 infoInt rfl (by decide) (by decide) w1.heap.size _ 0 [] rfl (nil_row_new _ _ _ rfl (by omega)) _ y.length (icells y) rfl ?hold2 (by rw [icells_length, Nat.mul_one]) (icells_one y) (by omega) (by simp) ?_)
  case hold2 => exact HI.keep (HI.keep hy hB1 (Nat.le_refl _)) ((Below.refl _ w1).alloc (Nat.le_refl _) _) (Nat.le_refl _)
  intro vb w2 hown2 hgrow2
  have hB2 : Below w1.heap.size w1 w2 := ((Below.refl _ w1).alloc (Nat.le_refl _) _).grown hgrow2 (by simp) (fun j hj => by simp [Value.ownBlock] at hj; omega)
  have hs2 := hB2.size
  have hb2 : HI w2 vb y := by simpa [HI] using holds_of hown2
  obtain ⟨bo, bc, rfl⟩ := Holds.form hb2
  have ha2 := HI.keep ha1 hB2 (Nat.le_refl _)
  have hB02 : Below w.heap.size w w2 := hB1.trans (hB2.mono hs1)
  clear hown2 hgrow2 ha1
  go_wp2_with fail
  refine (Diff_f x y _ _ w2 ha2 hb2 (by omega) (by omega) L HL).mono ?_
  rintro e w3 ⟨v3, rfl, h3, hB3⟩
  obtain ⟨o3, c3, rfl⟩ := Holds.form h3
  have hB03 : Below w.heap.size w w3 := hB02.trans (hB3.mono hB02.size)
  go_wp2_with fail
  refine (rDiff_f x y _ _ w3 (HI.keep hx hB03 (Nat.le_refl _)) (HI.keep hy hB03 (Nat.le_refl _)) (by omega) (by omega) L HL).mono ?_
  rintro e w4 ⟨v4, rfl, h4, hB4⟩
  obtain ⟨o4, c4, rfl⟩ := Holds.form h4
  have hB04 : Below w.heap.size w w4 := hB03.trans (hB4.mono hB03.size)
  have hB24 : Below w2.heap.size w2 w4 := hB3.trans (hB4.mono hB3.size)
  have h34 := HCh.keep h3 hB4 (Nat.le_refl _)
  clear h3 hB3 hB4
  go_wp2_with fail
  refine (Length_f x y _ _ w4 (HI.keep ha2 hB24 (Nat.le_refl _)) (HI.keep hb2 hB24 (Nat.le_refl _)) (by omega) (by omega) r Hr).mono ?_
  rintro e w5 ⟨rfl, hB5⟩
  have hB05 : Below w.heap.size w w5 := hB04.trans (hB5.mono hB04.size)
  go_wp2_with fail
  refine (rLength_f x y _ _ w5 (HI.keep hx hB05 (Nat.le_refl _)) (HI.keep hy hB05 (Nat.le_refl _)) (by omega) (by omega) r Hr).mono ?_
  rintro e w6 ⟨rfl, hB6⟩
  have hB06 : Below w.heap.size w w6 := hB05.trans (hB6.mono hB05.size)
  have hB46 : Below w4.heap.size w4 w6 := hB5.trans (hB6.mono hB5.size)
  have hB26 : Below w2.heap.size w2 w6 := hB24.trans (hB46.mono hB24.size)
  clear hB5 hB6
  go_wp2_with fail
  refine (SameC_any _ _ L w6 (by omega) (HCh.keep h34 hB46 (Nat.le_refl _)) (HCh.keep h4 hB46 (Nat.le_refl _))).mono ?_
  rintro e w7 ⟨rfl, hB7⟩
  have hB07 : Below w.heap.size w w7 := hB06.trans (hB7.mono hB06.size)
  have hB27 : Below w2.heap.size w2 w7 := hB26.trans (hB7.mono hB26.size)
  go_wp2_with fail
  refine (SameI_any _ _ x w7 (by omega) (HI.keep ha2 hB27 (Nat.le_refl _)) (HI.keep hx hB07 (Nat.le_refl _))).mono ?_
  rintro e w8 ⟨rfl, hB8⟩
  have hB08 : Below w.heap.size w w8 := hB07.trans (hB8.mono hB07.size)
  have hB28 : Below w2.heap.size w2 w8 := hB27.trans (hB8.mono hB27.size)
  go_wp2_with fail
  refine (SameI_any _ _ y w8 (by omega) (HI.keep hb2 hB28 (Nat.le_refl _)) (HI.keep hy hB08 (Nat.le_refl _))).mono ?_
  rintro e w9 ⟨rfl, hB9⟩
  have hB09 : Below w.heap.size w w9 := hB08.trans (hB9.mono hB08.size)
  go_wp2
  go_ret
  exact ⟨rfl, hB09⟩

theorem walk (x y : List Int) (vx vy : Value) (w : World) (hx : HI w vx x) (hy : HI w vy y) :
    Calls Try.prog 3 #[vx, vy] w fun e w' => e = .returned (.bool true) ∧ Below w.heap.size w w' := by
  by_cases h : x.length ≤ 200 ∧ y.length ≤ 200
  · exact all_small x y vx vy w hx hy h.1 h.2
  · by_cases h2 : x.length ≤ 4096 ∧ y.length ≤ 4096
    · exact let_go x y vx vy w hx hy (by omega) h2.1 h2.2
    · exact too_long x y vx vy w hx hy (by omega)

set_option maxRecDepth 20000 in
theorem contract (H : Type) (enc : TypeId × Value → H) (W : World) (base : Nat) (args : Array Value) (ds gs : List (DataW H)) (before : List MemPlace)
    (hval : ∀ (j : Nat) t v, Try.f3.params[j]? = some t → args[j]? = some v → Value.okWide Try.prog W .any base t v)
    (hW : DataW.Whole enc Try.prog Try.f3.params.toList Rows.minimalDiffsSpec.vars false W args.toList ds gs before) :
    Calls Try.prog 3 args W fun e W' => ∃ v, e = .returned v ∧ Rows.minimalDiffsSpec.post enc Try.prog Try.f3 false true false false W args v W' := by
  have hW' := hW
  obtain ⟨p, q, hA0, hV, rfl, hfz, hnd⟩ := hW
  have hA : DataW.TrodAll enc Try.prog W 0 (fun _ => true) true Try.f3.params.toList args.toList ds p := hA0
  rw [Try.params3] at hA hval
  obtain ⟨v0, vs0, d0, ds0, p0, q0, hargs, rfl, rfl, h0, r0⟩ := trodAll_cons hA
  obtain ⟨v1, vs1, d1, ds1, p1, q1, rfl, rfl, rfl, h1, r1⟩ := trodAll_cons r0
  obtain ⟨rfl, rfl, rfl⟩ := trodAll_nil r1
  obtain rfl : args = #[v0, v1] := by cases args; simp_all
  obtain ⟨rfl, rfl⟩ := trodVars_none hV
  obtain ⟨a0, len0, cap0, rfl⟩ := okWide_slice Try.underlying22 (hval 0 22 v0 rfl rfl)
  have k0 := h0
  have lt0 : ∀ x ∈ p0, x.block < W.heap.size := by obtain ⟨m, hm⟩ := k0; exact DataW.trod_lt m _ _ _ hm
  obtain ⟨a1, len1, cap1, rfl⟩ := okWide_slice Try.underlying22 (hval 1 22 v1 rfl rfl)
  have k1 := h1
  have lt1 : ∀ x ∈ p1, x.block < W.heap.size := by obtain ⟨m, hm⟩ := k1; exact DataW.trod_lt m _ _ _ hm
  clear hA0
  obtain ⟨f0, hf0⟩ := h0
  obtain ⟨ws0, hv0, hwl0, hwf0⟩ := open_nums (by simpa [Value.cells] using hf0)
  obtain ⟨f1, hf1⟩ := h1
  obtain ⟨ws1, hv1, hwl1, hwf1⟩ := open_nums (by simpa [Value.cells] using hf1)
  have hw := walk ws0 ws1 (.slice a0 len0 cap0) (.slice a1 len1 cap1) W  hv0 hv1
  refine hw.mono fun e W' ⟨he, bel⟩ => ?_
  subst he
  exact ⟨_, rfl, _, _, _, [], _, [], hW', trodAll_mk1 (shut_bool Try.underlying4 _), trodAll_cons_mk (Below.trod laidOut (by kernel_rfl) (of_decide_eq_true (by kernel_rfl)) k0 bel lt0) (trodAll_cons_mk (Below.trod laidOut (by kernel_rfl) (of_decide_eq_true (by kernel_rfl)) k1 bel lt1) trodAll_mk0), rfl, bel.frame _, fun h => by cases h⟩

set_option maxRecDepth 100000 in
theorem lifted (os : Os) (started : os.Started) (H : Type) (enc : TypeId × Value → H) :
    ReturnsInHanded {} Try.checked os 3 .any (Rows.minimalDiffsSpec.pre6 enc Try.prog Try.f3 Rows.minimalDiffsRow.domain false) (Rows.minimalDiffsSpec.post enc Try.prog Try.f3 false true false false) := by
  refine returnsInHanded_of_change (C := Try.checked) own started (by kernel_rfl) Try.func3
    (ChangeSpec.witness6 (enc := enc) (C := Try.checked) false ⟨#[], #[.slice none 0 0, .slice none 0 0], []⟩ 8 (by kernel_rfl) (by kernel_rfl) (by kernel_rfl) (by kernel_rfl)) ?_
  intro W base args ds gs before hval hW _ _
  exact contract H enc W base args ds gs before hval hW

theorem proved : Rows.MinimalDiffsSaid :=
  OpenClaim.holds_of_wide 3 Try.f3 rfl rfl rfl rfl rfl rfl rfl ⟨rfl, rfl, rfl, rfl, rfl⟩ rfl rfl rfl rfl rfl (by kernel_rfl) Try.func3 (by kernel_rfl)
    (of_decide_eq_true (by kernel_rfl)) (by unfold Func.isWrapper; first | (rw [if_pos (by decide +kernel)]; kernel_rfl) | (rw [if_neg (by decide +kernel)]; exact ⟨rfl, rfl⟩))
    (fun os started H enc _ => lifted os started H enc)
#print axioms proved
end Go.Proofs.Ytoacmaloiaeniab.minimalDiffs
