/-
  For every two rows of numbers and every bound the law SpeedyDiffs returns true and leaves its arguments as they were: speedy.Diff answers as the plain reference does, refuses rows that are too long, and leaves the rows as they are. No condition.
-/
import Derived.Test.YteplejpbgajecaaPartE2
import Derived.Test.YteplejpbgajecaaPartA4
namespace Go.Proofs.Yteplejpbgajecaa.speedyDiffs
open Go.ChangeShapes Go.WideShapes Go.ChangeAt Go.RowKit

set_option maxRecDepth 10000 in
set_option maxHeartbeats 4000000 in
theorem too_long (x y : List Int) (bound : Int) (vx vy : Value) (w : World) (hx : HI w vx x) (hy : HI w vy y) (hl : 4096 < x.length ∨ 4096 < y.length) :
    Calls Try.prog 3 #[vx, vy, .int .i64 bound] w fun e w' => e = .returned (.bool true) ∧ Below w.heap.size w w' := by
  obtain ⟨xo, xc, rfl⟩ := Holds.form hx
  obtain ⟨yo, yc, rfl⟩ := Holds.form hy
  have HL : Hid (4096 < x.length ∨ 4096 < y.length) := hl
  clear hl
  go_enter Try.func3, Try.ntmps3
  by_cases h1 : 4096 < x.length
  · have e1 : decide ((4096 : Int) < (x.length : Int)) = true := decide_eq_true (by omega)
    go_wp2_with fail
    refine (spDiff_long x y bound _ _ w hx hy HL.out).mono ?_
    rintro e w2 ⟨rfl, hB2⟩
    go_wp2
    go_ret
    exact ⟨rfl, hB2⟩
  · have e1 : decide ((4096 : Int) < (x.length : Int)) = false := decide_eq_false (by omega)
    have h2 : 4096 < y.length := by have := HL.out; omega
    have e2 : decide ((4096 : Int) < (y.length : Int)) = true := decide_eq_true (by omega)
    go_wp2_with fail
    refine (spDiff_long x y bound _ _ w hx hy HL.out).mono ?_
    rintro e w2 ⟨rfl, hB2⟩
    go_wp2
    go_ret
    exact ⟨rfl, hB2⟩

set_option maxRecDepth 10000 in
set_option maxHeartbeats 4000000 in
theorem let_go (x y : List Int) (bound : Int) (vx vy : Value) (w : World) (hx : HI w vx x) (hy : HI w vy y) (hl : 200 < x.length ∨ 200 < y.length) (hxl : x.length ≤ 4096) (hyl : y.length ≤ 4096) :
    Calls Try.prog 3 #[vx, vy, .int .i64 bound] w fun e w' => e = .returned (.bool true) ∧ Below w.heap.size w w' := by
  obtain ⟨xo, xc, rfl⟩ := Holds.form hx
  obtain ⟨yo, yc, rfl⟩ := Holds.form hy
  have HL : Hid (200 < x.length ∨ 200 < y.length) := hl
  clear hl
  have e1 : decide ((4096 : Int) < (x.length : Int)) = false := decide_eq_false (by omega)
  have e2 : decide ((4096 : Int) < (y.length : Int)) = false := decide_eq_false (by omega)
  go_enter Try.func3, Try.ntmps3
  by_cases h1 : 200 < x.length
  · have e3 : decide ((200 : Int) < (x.length : Int)) = true := decide_eq_true (by omega)
    go_wp2
    go_ret
    exact ⟨rfl, Below.refl _ _⟩
  · have e3 : decide ((200 : Int) < (x.length : Int)) = false := decide_eq_false (by omega)
    have h2 : 200 < y.length := by have := HL.out; omega
    have e4 : decide ((200 : Int) < (y.length : Int)) = true := decide_eq_true (by omega)
    go_wp2
    go_ret
    exact ⟨rfl, Below.refl _ _⟩

set_option maxRecDepth 10000 in
set_option maxHeartbeats 4000000 in
theorem all_small (x y : List Int) (bound : Int) (vx vy : Value) (w : World) (hx : HI w vx x) (hy : HI w vy y) (hxl : x.length ≤ 200) (hyl : y.length ≤ 200) :
    Calls Try.prog 3 #[vx, vy, .int .i64 bound] w fun e w' => e = .returned (.bool true) ∧ Below w.heap.size w w' := by
  obtain ⟨xo, xc, rfl⟩ := Holds.form hx
  obtain ⟨yo, yc, rfl⟩ := Holds.form hy
  obtain ⟨L, hL⟩ : ∃ L, mkL (sKeep bound x y) y.length = L := ⟨_, rfl⟩
  have hLl : L.length ≤ 202 := by
    rw [← hL]
    have h1 := mk_many (sKeep bound x y) y.length
    rw [(sKeep_kpt bound x y).len] at h1
    omega
  have HL : Hid (mkL (sKeep bound x y) y.length = L) := hL
  clear hL
  have e1 : decide ((4096 : Int) < (x.length : Int)) = false := decide_eq_false (by omega)
  have e2 : decide ((4096 : Int) < (y.length : Int)) = false := decide_eq_false (by omega)
  have e3 : decide ((200 : Int) < (x.length : Int)) = false := decide_eq_false (by omega)
  have e4 : decide ((200 : Int) < (y.length : Int)) = false := decide_eq_false (by omega)
  go_enter Try.func3, Try.ntmps3
  go_wp2_with (at_builtin; refine wpList_append_h _ (by kernel_rfl) (.tmp 45) (.tmp 46) 22 3 (.int .i64 0) 1 8 rfl Try.underlying22 infoInt rfl (by decide) (by decide) w.heap.size _ 0 [] rfl (nil_row_new _ _ _ rfl (by omega)) _ x.length (icells x) rfl ?hold1 (by rw [icells_length, Nat.mul_one]) (icells_one x) (by omega) (by simp) ?_)
  case hold1 => exact HI.keep hx ((Below.refl _ w).alloc (Nat.le_refl _) _) (Nat.le_refl _)
  intro va w1 hown1 hgrow1
  have hB1 : Below w.heap.size w w1 := ((Below.refl _ w).alloc (Nat.le_refl _) _).grown hgrow1 (by simp) (fun j hj => by simp [Value.ownBlock] at hj; omega)
  have hs1 := hB1.size
  have ha1 : HI w1 va x := by simpa [HI] using holds_of hown1
  obtain ⟨ao, ac, rfl⟩ := Holds.form ha1
  clear hown1 hgrow1
  go_wp2_with (at_builtin; refine wpList_append_h _ (by kernel_rfl) (.tmp 48) (.tmp 49) 22 3 (.int .i64 0) 1 8 rfl Try.underlying22 infoInt rfl (by decide) (by decide) w1.heap.size _ 0 [] rfl (nil_row_new _ _ _ rfl (by omega)) _ y.length (icells y) rfl ?hold2 (by rw [icells_length, Nat.mul_one]) (icells_one y) (by omega) (by simp) ?_)
  case hold2 => exact HI.keep (HI.keep hy hB1 (Nat.le_refl _)) ((Below.refl _ w1).alloc (Nat.le_refl _) _) (Nat.le_refl _)
  intro vb w2 hown2 hgrow2
  have hB2 : Below w1.heap.size w1 w2 := ((Below.refl _ w1).alloc (Nat.le_refl _) _).grown hgrow2 (by simp) (fun j hj => by simp [Value.ownBlock] at hj; omega)
  have hs2 := hB2.size
  have hb2 : HI w2 vb y := by simpa [HI] using holds_of hown2
  obtain ⟨bo, bc, rfl⟩ := Holds.form hb2
  have ha2 := HI.keep ha1 hB2 (Nat.le_refl _)
  have hB02 : Below w.heap.size w w2 := hB1.trans (hB2.mono hs1)
  clear hown2 hgrow2 ha1
  go_wp2_with fail
  refine (spDiff_f x y bound _ _ w2 ha2 hb2 (by omega) (by omega) L HL).mono ?_
  rintro e w3 ⟨v3, rfl, h3, hB3⟩
  obtain ⟨o3, c3, rfl⟩ := Holds.form h3
  have hB03 : Below w.heap.size w w3 := hB02.trans (hB3.mono hB02.size)
  go_wp2_with fail
  refine (rspDiff_f x y bound _ _ w3 (HI.keep hx hB03 (Nat.le_refl _)) (HI.keep hy hB03 (Nat.le_refl _)) (by omega) (by omega) L HL).mono ?_
  rintro e w4 ⟨v4, rfl, h4, hB4⟩
  obtain ⟨o4, c4, rfl⟩ := Holds.form h4
  have hB04 : Below w.heap.size w w4 := hB03.trans (hB4.mono hB03.size)
  have hB24 : Below w2.heap.size w2 w4 := hB3.trans (hB4.mono hB3.size)
  have h34 := HCh.keep h3 hB4 (Nat.le_refl _)
  clear h3 hB3 hB4
  go_wp2_with fail
  refine (SameC_any _ _ L w4 (by omega) h34 h4).mono ?_
  rintro e w7 ⟨rfl, hB7⟩
  have hB07 : Below w.heap.size w w7 := hB04.trans (hB7.mono hB04.size)
  have hB27 : Below w2.heap.size w2 w7 := hB24.trans (hB7.mono hB24.size)
  go_wp2_with fail
  refine (SameI_any _ _ x w7 (by omega) (HI.keep ha2 hB27 (Nat.le_refl _)) (HI.keep hx hB07 (Nat.le_refl _))).mono ?_
  rintro e w8 ⟨rfl, hB8⟩
  have hB08 : Below w.heap.size w w8 := hB07.trans (hB8.mono hB07.size)
  have hB28 : Below w2.heap.size w2 w8 := hB27.trans (hB8.mono hB27.size)
  go_wp2_with fail
  refine (SameI_any _ _ y w8 (by omega) (HI.keep hb2 hB28 (Nat.le_refl _)) (HI.keep hy hB08 (Nat.le_refl _))).mono ?_
  rintro e w9 ⟨rfl, hB9⟩
  have hB09 : Below w.heap.size w w9 := hB08.trans (hB9.mono hB08.size)
  go_wp2
  go_ret
  exact ⟨rfl, hB09⟩

theorem walk (x y : List Int) (bound : Int) (vx vy : Value) (w : World) (_ : -9223372036854775808 ≤ bound ∧ bound ≤ 9223372036854775807) (hx : HI w vx x) (hy : HI w vy y) :
    Calls Try.prog 3 #[vx, vy, .int .i64 bound] w fun e w' => e = .returned (.bool true) ∧ Below w.heap.size w w' := by
  by_cases h : x.length ≤ 200 ∧ y.length ≤ 200
  · exact all_small x y bound vx vy w hx hy h.1 h.2
  · by_cases h2 : x.length ≤ 4096 ∧ y.length ≤ 4096
    · exact let_go x y bound vx vy w hx hy (by omega) h2.1 h2.2
    · exact too_long x y bound vx vy w hx hy (by omega)

set_option maxRecDepth 20000 in
theorem contract (H : Type) (enc : TypeId × Value → H) (W : World) (base : Nat) (args : Array Value) (ds gs : List (DataW H)) (before : List MemPlace)
    (hval : ∀ (j : Nat) t v, Try.f3.params[j]? = some t → args[j]? = some v → Value.okWide Try.prog W .any base t v)
    (hW : DataW.Whole enc Try.prog Try.f3.params.toList Rows.speedyDiffsSpec.vars false W args.toList ds gs before) :
    Calls Try.prog 3 args W fun e W' => ∃ v, e = .returned v ∧ Rows.speedyDiffsSpec.post enc Try.prog Try.f3 false true false false W args v W' := by
  have hW' := hW
  obtain ⟨p, q, hA0, hV, rfl, hfz, hnd⟩ := hW
  have hA : DataW.TrodAll enc Try.prog W 0 (fun _ => true) true Try.f3.params.toList args.toList ds p := hA0
  rw [Try.params3] at hA hval
  obtain ⟨v0, vs0, d0, ds0, p0, q0, hargs, rfl, rfl, h0, r0⟩ := trodAll_cons hA
  obtain ⟨v1, vs1, d1, ds1, p1, q1, rfl, rfl, rfl, h1, r1⟩ := trodAll_cons r0
  obtain ⟨v2, vs2, d2, ds2, p2, q2, rfl, rfl, rfl, h2, r2⟩ := trodAll_cons r1
  obtain ⟨rfl, rfl, rfl⟩ := trodAll_nil r2
  obtain rfl : args = #[v0, v1, v2] := by cases args; simp_all
  obtain ⟨rfl, rfl⟩ := trodVars_none hV
  obtain ⟨a0, len0, cap0, rfl⟩ := okWide_slice Try.underlying22 (hval 0 22 v0 rfl rfl)
  have k0 := h0
  have lt0 : ∀ x ∈ p0, x.block < W.heap.size := by obtain ⟨m, hm⟩ := k0; exact DataW.trod_lt m _ _ _ hm
  obtain ⟨a1, len1, cap1, rfl⟩ := okWide_slice Try.underlying22 (hval 1 22 v1 rfl rfl)
  have k1 := h1
  have lt1 : ∀ x ∈ p1, x.block < W.heap.size := by obtain ⟨m, hm⟩ := k1; exact DataW.trod_lt m _ _ _ hm
  obtain ⟨n2, rfl, rfl, rfl, wn2⟩ := open_int Try.underlying3 (hval 2 3 v2 rfl rfl) h2
  clear hA0
  obtain ⟨f0, hf0⟩ := h0
  obtain ⟨ws0, hv0, hwl0, hwf0⟩ := open_nums (by simpa [Value.cells] using hf0)
  obtain ⟨f1, hf1⟩ := h1
  obtain ⟨ws1, hv1, hwl1, hwf1⟩ := open_nums (by simpa [Value.cells] using hf1)
  have hw := walk ws0 ws1 n2 (.slice a0 len0 cap0) (.slice a1 len1 cap1) W (bounds_i64 wn2) hv0 hv1
  refine hw.mono fun e W' ⟨he, bel⟩ => ?_
  subst he
  exact ⟨_, rfl, _, _, _, [], _, [], hW', trodAll_mk1 (shut_bool Try.underlying4 _), trodAll_cons_mk (Below.trod laidOut (by kernel_rfl) (of_decide_eq_true (by kernel_rfl)) k0 bel lt0) (trodAll_cons_mk (Below.trod laidOut (by kernel_rfl) (of_decide_eq_true (by kernel_rfl)) k1 bel lt1) (trodAll_cons_mk (shut_int Try.underlying3 wn2) trodAll_mk0)), rfl, bel.frame _, fun h => by cases h⟩

set_option maxRecDepth 100000 in
theorem lifted (os : Os) (started : os.Started) (H : Type) (enc : TypeId × Value → H) :
    ReturnsInHanded {} Try.checked os 3 .any (Rows.speedyDiffsSpec.pre6 enc Try.prog Try.f3 Rows.speedyDiffsRow.domain false) (Rows.speedyDiffsSpec.post enc Try.prog Try.f3 false true false false) := by
  refine returnsInHanded_of_change (C := Try.checked) own started (by kernel_rfl) Try.func3
    (ChangeSpec.witness6 (enc := enc) (C := Try.checked) false ⟨#[], #[.slice none 0 0, .slice none 0 0, .int .i64 0], []⟩ 8 (by kernel_rfl) (by kernel_rfl) (by kernel_rfl) (by kernel_rfl)) ?_
  intro W base args ds gs before hval hW _ _
  exact contract H enc W base args ds gs before hval hW

theorem proved : Rows.SpeedyDiffsSaid :=
  OpenClaim.holds_of_wide 3 Try.f3 rfl rfl rfl rfl rfl rfl rfl ⟨rfl, rfl, rfl, rfl, rfl⟩ rfl rfl rfl rfl rfl (by kernel_rfl) Try.func3 (by kernel_rfl)
    (of_decide_eq_true (by kernel_rfl)) (by unfold Func.isWrapper; first | (rw [if_pos (by decide +kernel)]; kernel_rfl) | (rw [if_neg (by decide +kernel)]; exact ⟨rfl, rfl⟩))
    (fun os started H enc _ => lifted os started H enc)
#print axioms proved
